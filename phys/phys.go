// Package phys is layer 1: characters and where they came from; see shared/doc/01-phys.md.
package phys

import (
	"iter"
	"strings"

	"reglet/api"
)

const (
	lineEnd   = '\n'
	backslash = '\\'

	// The third bytes of the trigraphs, and in the same order what they stand for.
	thirds = `=/'()!<>-`
	stands = `#\^[]|{}~`

	// Of the two spellings of a splice the one that Spell writes: it has no ? that could meet one beside it.
	splice = "\\\n"
)

// part is a character of a text, or a splice, which has a place and a length but no byte of its own.
type part struct {
	api.Char
	splice bool
}

// end is the position behind the last byte of p.
func (p part) end() int { return p.At + p.Len }

// Check says whether a text is short enough and ends well.
func Check(s string) api.Errno {
	if len(s) > api.MaxText {
		return api.ErrText
	}
	if !endsWell(s) {
		return api.ErrEnd
	}
	return api.OK
}

// Chars are a text's characters, with the places they came from.
func Chars(s string) ([]api.Char, api.Errno) {
	if e := Check(s); e != api.OK {
		return nil, e
	}
	var l []api.Char
	for p := range parts(s) {
		if !p.splice {
			l = append(l, p.Char)
		}
	}
	return l, api.OK
}

// Logical is a text's characters, one directly after the other.
func Logical(s string) (string, api.Errno) {
	if e := Check(s); e != api.OK {
		return "", e
	}
	var text strings.Builder
	for p := range parts(s) {
		if !p.splice {
			text.WriteByte(p.B)
		}
	}
	return text.String(), api.OK
}

// Splices are the places of a text's splices.
func Splices(s string) ([]api.Span, api.Errno) {
	if e := Check(s); e != api.OK {
		return nil, e
	}
	var l []api.Span
	for p := range parts(s) {
		if p.splice {
			l = append(l, api.Span{At: p.At, End: p.end()})
		}
	}
	return l, api.OK
}

// Third is what the trigraph with the third byte c stands for, if there is one.
func Third(c byte) (byte, bool) {
	i := strings.IndexByte(thirds, c)
	if i < 0 {
		return 0, false
	}
	return stands[i], true
}

// Spell is a text whose logical text is l.
func Spell(l string) (string, api.Errno) {
	if len(l) > api.MaxText {
		return "", api.ErrText
	}
	if l != "" && l[len(l)-1] != lineEnd {
		return "", api.ErrEnd
	}
	var text strings.Builder
	for i := range len(l) {
		text.WriteByte(l[i])
		if misread(l[i:]) {
			text.WriteString(splice)
		}
	}
	if text.Len() > api.MaxText {
		return "", api.ErrText
	}
	return text.String(), api.OK
}

// parts are the characters and the splices of s in order; each byte of s belongs to one of them.
func parts(s string) iter.Seq[part] {
	return func(yield func(part) bool) {
		for at := 0; at < len(s); {
			p := partAt(s, at)
			if !yield(p) {
				return
			}
			at = p.end()
		}
	}
}

// partAt is the part of s that begins at a position before its end.
func partAt(s string, at int) part {
	c := charAt(s, at)
	behind := at + c.Len
	if c.B == backslash && behind < len(s) && s[behind] == lineEnd {
		return part{Char: api.Char{At: at, Len: c.Len + 1}, splice: true}
	}
	return part{Char: c}
}

// charAt is the character of s at a position before its end, as if there were no splices.
func charAt(s string, at int) api.Char {
	if b, is := trigraph(s[at:]); is {
		return api.Char{B: b, At: at, Len: 3}
	}
	return api.Char{B: s[at], At: at, Len: 1}
}

// trigraph is what the trigraph with which s begins stands for, if it begins with one.
func trigraph(s string) (byte, bool) {
	if len(s) < 3 || s[:2] != "??" {
		return 0, false
	}
	return Third(s[2])
}

// misread says whether the first byte of the logical text s and the next one would, side by side, be read as something else.
func misread(s string) bool {
	if strings.HasPrefix(s, splice) {
		return true
	}
	_, is := trigraph(s)
	return is
}

// endsWell says whether s is empty, or ends with a byte 10 that belongs to no splice.
func endsWell(s string) bool {
	well := s == ""
	// The part that reaches the end of s decides; what stands before it is only passed over.
traverse:
	for p := range parts(s) {
		switch {
		case p.end() < len(s):
			continue
		case p.splice:
			break traverse
		default:
			well = p.B == lineEnd
			break traverse
		}
	}
	return well
}
