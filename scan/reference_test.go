package scan_test

import (
	"regexp"
	"slices"
	"strings"
	"testing"

	"reglet/api"
)

// The tokens of the chapter as regular expressions, which share nothing with the package. They work on texts whose bytes have become runes.
var (
	headers  = regexp.MustCompile(`^(?:<[^>\n]*>|"[^"\n]*")`)
	comments = regexp.MustCompile(`^(?:(?s:/\*.*?\*/)|//[^\n]*)`)
	spaces   = regexp.MustCompile(`^[ \t\v\f]*`)
)

// plain are the kinds 1 to 6 and 9.
var plain = []struct {
	kind int
	is   *regexp.Regexp
}{
	{api.Word, longestOf(`[A-Za-z_][A-Za-z_0-9]*`)},
	{api.Number, longestOf(`\.?[0-9]([0-9]|[A-Za-z_]|\.|[eEpP][+-])*`)},
	{api.Chars, longestOf(`[uUL]?'([^'\\\n]|\\[^\n])+'`)},
	{api.String, longestOf(`(u8|u|U|L)?"([^"\\\n]|\\[^\n])*"`)},
	{api.Punct, longestOf(anyOf(puncts()))},
	{api.Other, longestOf(`[^ \t\v\f\n'"]`)},
	{api.Newline, longestOf(`\n`)},
}

func longestOf(tokens string) *regexp.Regexp {
	r := regexp.MustCompile("^(?:" + tokens + ")")
	r.Longest()
	return r
}

func anyOf(texts []string) string {
	var quoted []string
	for _, t := range texts {
		quoted = append(quoted, regexp.QuoteMeta(t))
	}
	return strings.Join(quoted, "|")
}

// puncts are the strings that the chapter lists as those of the kind Punct.
func puncts() []string {
	return strings.Fields("[ ] ( ) { } . -> ++ -- & * + - ~ ! / % << >> < > <= >= == != ^ | && || ? : ; ... " +
		"= *= /= %= += -= <<= >>= &= ^= |= , # ## <: :> <% %> %: %:%:")
}

// wide is a text of runes, each of them a byte of s; narrow takes that back.
func wide(s string) string {
	var w strings.Builder
	for i := range len(s) {
		w.WriteRune(rune(s[i]))
	}
	return w.String()
}

func narrow(w string) string {
	var s []byte
	for _, r := range w {
		s = append(s, byte(r))
	}
	return string(s)
}

// known are the tokens that a logical text should have, with their places in it, or the error with which it should be rejected.
func known(logical string) ([]api.Tok, api.Errno) {
	var l []api.Tok
	w, at, line := wide(logical), 0, []string{}
	for {
		white := len(spaces.FindString(w))
		w, at = w[white:], at+white
		if w == "" {
			return l, api.OK
		}
		kind, text, e := knownNext(w, slices.Equal(line, []string{"#", "include"}) || slices.Equal(line, []string{"%:", "include"}))
		if e != api.OK {
			return nil, e
		}
		w = w[len(text):]
		text = narrow(text)
		l = append(l, api.Tok{Kind: kind, Text: text, At: at, End: at + len(text), Space: white > 0})
		at += len(text)
		if kind == api.Newline {
			line = nil
		} else if kind != api.Comment {
			line = append(line, text)
		}
	}
}

// knownNext is the token with which a text of runes should begin.
func knownNext(w string, includes bool) (int, string, api.Errno) {
	if t := headers.FindString(w); includes && t != "" {
		return api.Header, t, api.OK
	}
	if t := comments.FindString(w); t != "" {
		return api.Comment, t, api.OK
	}
	if strings.HasPrefix(w, "/*") {
		return 0, "", api.ErrComment
	}
	kind, text := 0, ""
	for _, p := range plain {
		if t := p.is.FindString(w); len([]rune(t)) > len([]rune(text)) {
			kind, text = p.kind, t
		}
	}
	if text == "" {
		return 0, "", api.ErrQuote
	}
	return kind, text, api.OK
}

// everyText visits all texts of at most n of the parts given.
func everyText(parts []string, n int, visit func(s string)) {
	visit("")
	level := []string{""}
	for range n {
		var longer []string
		for _, s := range level {
			for _, p := range parts {
				longer = append(longer, s+p)
			}
		}
		for _, s := range longer {
			visit(s)
		}
		level = longer
	}
}

// manyTexts visits short logical texts, none of them with an end of line behind it, of parts that have to do with each other.
func manyTexts(visit func(s string)) {
	for _, a := range []struct {
		parts string
		n     int
	}{
		{"' \" \\ \n L u8 x", 5},
		{"< > % : # . =", 5},
		{"+ - & | = ! ^", 4},
		{"1 . e + P _ -", 5},
		{"/ * \n \" a", 6},
		{"\x00 \x80 \xe9 @ $ ` \r 9 z Z", 3},
	} {
		everyText(strings.Split(a.parts, " "), a.n, visit)
	}
	everyText([]string{" ", "\t", "\v", "\f", "\n", "a", "/**/", "// ", "?", "\\"}, 4, visit)
	everyText([]string{"#", "%:", "include", "<", ">", "\"", "/**/", "/*\n*/", "//", " ", "\n", "a"}, 4, visit)
	everyText([]string{"<", ">", "\"", "/*", "*/", "//", " ", "\n", "a", "'"}, 4, func(s string) { visit("#include" + s) })
}

// A test over many texts says nothing if there are none.
func TestManyTextsAreMany(t *testing.T) {
	n := 0
	manyTexts(func(string) { n++ })
	if n < 80000 {
		t.Error(n)
	}
}
