package phys_test

import (
	"regexp"
	"slices"
	"strings"
	"testing"
	"unsafe"

	"reglet/api"
	"reglet/phys"
)

// third holds each third byte of a trigraph, and what the trigraph stands for, as the chapter lists them.
var third = map[byte]byte{'=': '#', '/': '\\', '\'': '^', '(': '[', ')': ']', '!': '|', '<': '{', '>': '}', '-': '~'}

// partsOf takes a text apart by a rule that shares nothing with the package: first a splice, then a trigraph, then a byte.
var partsOf = regexp.MustCompile(`(?s)(\\|\?\?/)\n|\?\?[=/'()!<>-]|.`)

// known is what a text should be read as.
type known struct {
	chars   []api.Char
	splices []api.Span
	text    string
	err     api.Errno
}

// reading works out what a text should be read as. (The texts here are of bytes below 128, so the regexp's characters are bytes.)
func reading(s string) known {
	var k known
	ends := s == ""
	for _, p := range partsOf.FindAllStringSubmatchIndex(s, -1) {
		part := s[p[0]:p[1]]
		ends = part == "\n"
		switch {
		case p[2] >= 0:
			k.splices = append(k.splices, api.Span{At: p[0], End: p[1]})
			continue
		case len(part) == 3:
			k.chars = append(k.chars, api.Char{B: third[part[2]], At: p[0], Len: 3})
		default:
			k.chars = append(k.chars, api.Char{B: part[0], At: p[0], Len: 1})
		}
		k.text += string([]byte{k.chars[len(k.chars)-1].B})
	}
	if !ends {
		return known{err: api.ErrEnd}
	}
	return k
}

// everyText visits all texts of at most n bytes of an alphabet.
func everyText(alphabet string, n int, visit func(s string)) {
	visit("")
	level := []string{""}
	for range n {
		var longer []string
		for _, s := range level {
			for i := range len(alphabet) {
				longer = append(longer, s+alphabet[i:i+1])
			}
		}
		for _, s := range longer {
			visit(s)
		}
		level = longer
	}
}

// chars is Chars of a text that must be read without an error.
func chars(t *testing.T, s string) []api.Char {
	t.Helper()
	l, e := phys.Chars(s)
	if e != api.OK {
		t.Fatalf("Chars(%.40q): %v", s, e)
	}
	return l
}

// moved are characters that stand n bytes further on.
func moved(l []api.Char, n int) []api.Char {
	l = slices.Clone(l)
	for i := range l {
		l[i].At += n
	}
	return l
}

// P1.1

func TestCheckOfEnds(t *testing.T) {
	for s, want := range map[string]api.Errno{
		"":                api.OK,
		"\n":              api.OK,
		"a\n":             api.OK,
		"a\\\n\n":         api.OK,
		"a??/\n\n":        api.OK,
		"\\x\n":           api.OK,
		"??x\n":           api.OK,
		"a":               api.ErrEnd,
		"a\n ":            api.ErrEnd,
		"a\r":             api.ErrEnd,
		"\x00":            api.ErrEnd,
		"\\":              api.ErrEnd,
		"??/":             api.ErrEnd,
		"\\\n":            api.ErrEnd,
		"a\\\n":           api.ErrEnd,
		"a\\\\\n":         api.ErrEnd,
		"a??/\n":          api.ErrEnd,
		"a???/\n":         api.ErrEnd,
		"a??/??/\n":       api.ErrEnd,
		"a\n\\\n":         api.ErrEnd,
		"a\\\n\\\n":       api.ErrEnd,
		"?\\\n?/\n":       api.OK,
		"a??\\\n/\n":      api.OK,
		"a??/\\\n\n":      api.OK,
		"\xff\x80\n":      api.OK,
		"\xff\x80\\\n":    api.ErrEnd,
		"a\\ \n":          api.OK,
		"a\\\r\n":         api.OK,
		"a??/\r\n":        api.OK,
		"\\\n\\\n\\\n\n":  api.OK,
		"??/\n??/\n\n":    api.OK,
		"??/\n??/\n\\\n":  api.ErrEnd,
		"??=??/??(\n??/x": api.ErrEnd,
	} {
		if e := phys.Check(s); e != want {
			t.Errorf("Check(%q): %v, not %v", s, e, want)
		}
	}
}

func TestCheckOfLengths(t *testing.T) {
	full := strings.Repeat("a", api.MaxText-1)
	for _, c := range []struct {
		name, s string
		want    api.Errno
	}{
		{"MaxText bytes", full + "\n", api.OK},
		{"MaxText bytes without an end", full + "a", api.ErrEnd},
		{"MaxText bytes with a splice at the end", full[1:] + "\\\n", api.ErrEnd},
		{"one byte more", full + "a\n", api.ErrText},
		{"one byte more without an end", full + "aa", api.ErrText},
		{"one byte more with a splice at the end", full + "\\\n", api.ErrText},
		{"few characters of many bytes", strings.Repeat("??=", api.MaxText/3) + "\n", api.OK},
		{"few characters of too many bytes", strings.Repeat("??=", api.MaxText/3+1) + "\n", api.ErrText},
		{"splices of too many bytes", strings.Repeat("\\\n", api.MaxText/2) + "\n", api.ErrText},
	} {
		if e := phys.Check(c.s); e != c.want {
			t.Errorf("%s: %v, not %v", c.name, e, c.want)
		}
	}
}

func TestErrorsOfCheckEverywhere(t *testing.T) {
	for _, s := range []string{"a", "a\\\n", "??/\n", strings.Repeat("\n", api.MaxText+1)} {
		want := phys.Check(s)
		if want == api.OK {
			t.Errorf("%.20q: no error", s)
		}
		if l, e := phys.Chars(s); e != want || len(l) != 0 {
			t.Errorf("Chars(%.20q): %d of them, %v", s, len(l), e)
		}
		if l, e := phys.Logical(s); e != want || l != "" {
			t.Errorf("Logical(%.20q): %.20q, %v", s, l, e)
		}
		if l, e := phys.Splices(s); e != want || len(l) != 0 {
			t.Errorf("Splices(%.20q): %v, %v", s, l, e)
		}
	}
}

func TestReadingOfEmptyText(t *testing.T) {
	l, e := phys.Chars("")
	text, f := phys.Logical("")
	splices, g := phys.Splices("")
	if len(l) != 0 || text != "" || len(splices) != 0 || e != api.OK || f != api.OK || g != api.OK {
		t.Error(l, e, text, f, splices, g)
	}
}

func TestChars(t *testing.T) {
	for s, want := range map[string][]api.Char{
		"a??=\\\nb\n": {{B: 'a', At: 0, Len: 1}, {B: '#', At: 1, Len: 3}, {B: 'b', At: 6, Len: 1}, {B: '\n', At: 7, Len: 1}},
		"???=\n":      {{B: '?', At: 0, Len: 1}, {B: '#', At: 1, Len: 3}, {B: '\n', At: 4, Len: 1}},
		"??/??/\n\n":  {{B: '\\', At: 0, Len: 3}, {B: '\n', At: 7, Len: 1}},
		"\\\\\n\n":    {{B: '\\', At: 0, Len: 1}, {B: '\n', At: 3, Len: 1}},
		"??/\\\n\n":   {{B: '\\', At: 0, Len: 3}, {B: '\n', At: 5, Len: 1}},
		"\xe9\x00\n":  {{B: 0xe9, At: 0, Len: 1}, {B: 0, At: 1, Len: 1}, {B: '\n', At: 2, Len: 1}},
	} {
		if l := chars(t, s); !slices.Equal(l, want) {
			t.Errorf("Chars(%q): %v, not %v", s, l, want)
		}
	}
}

func TestLogical(t *testing.T) {
	for s, want := range map[string]string{
		"?\\\n?=\n":          "??=\n",
		"?\\\n??=\n":         "?#\n",
		"??\\\n=\n":          "??=\n",
		"??/x??/??/\n\n":     "\\x\\\n",
		"\\\n\\\n??/\na\n":   "a\n",
		"??=??/??'??(??)\n":  "#\\^[]\n",
		"??!??<??>??-??x?\n": "|{}~??x?\n",
		"\xff??=\x80\n":      "\xff#\x80\n",
	} {
		if l, e := phys.Logical(s); e != api.OK || l != want {
			t.Errorf("Logical(%q): %q, %v, not %q", s, l, e, want)
		}
	}
}

func TestSplices(t *testing.T) {
	for s, want := range map[string][]api.Span{
		"a\n":                     nil,
		"\\\n\n":                  {{At: 0, End: 2}},
		"a??/\nb\n":               {{At: 1, End: 5}},
		"a\\\\\n??/\n\\\nb\\\n\n": {{At: 2, End: 4}, {At: 4, End: 8}, {At: 8, End: 10}, {At: 11, End: 13}},
		"???/\n\n":                {{At: 1, End: 5}},
		"??/??/\n\n":              {{At: 3, End: 7}},
		"\\ \n":                   nil,
	} {
		if l, e := phys.Splices(s); e != api.OK || !slices.Equal(l, want) {
			t.Errorf("Splices(%q): %v, %v, not %v", s, l, e, want)
		}
	}
}

func TestReadingOfEveryShortText(t *testing.T) {
	everyText("?/\\\n=a", 7, func(s string) {
		want := reading(s)
		if e := phys.Check(s); e != want.err {
			t.Fatalf("Check(%q): %v", s, e)
		}
		if l, e := phys.Chars(s); e != want.err || !slices.Equal(l, want.chars) {
			t.Fatalf("Chars(%q): %v, %v, not %v", s, l, e, want.chars)
		}
		if l, e := phys.Logical(s); e != want.err || l != want.text {
			t.Fatalf("Logical(%q): %q, %v, not %q", s, l, e, want.text)
		}
		if l, e := phys.Splices(s); e != want.err || !slices.Equal(l, want.splices) {
			t.Fatalf("Splices(%q): %v, %v, not %v", s, l, e, want.splices)
		}
	})
}

func TestReadingOfLongestText(t *testing.T) {
	s := strings.Repeat("??=\\\nx??/\n", api.MaxText/10)
	s += strings.Repeat("x", api.MaxText-len(s)-1) + "\n"
	want := reading(s)
	l, e := phys.Chars(s)
	text, f := phys.Logical(s)
	splices, g := phys.Splices(s)
	if e != api.OK || f != api.OK || g != api.OK {
		t.Fatal(e, f, g)
	}
	if !slices.Equal(l, want.chars) || text != want.text || !slices.Equal(splices, want.splices) {
		t.Error("the longest text is read as something else")
	}
}

// P1.2

func TestThirdOfEveryByte(t *testing.T) {
	for i := range 256 {
		c := byte(i)
		want, known := third[c]
		if b, is := phys.Third(c); b != want || is != known {
			t.Errorf("Third(%q): %q, %v", c, b, is)
		}
	}
}

// P1.3

func TestSpell(t *testing.T) {
	for l, want := range map[string]string{
		"":                 "",
		"\n":               "\n",
		"a\n":              "a\n",
		"??=\n":            "?\\\n?=\n",
		"\\\n":             "\\\\\n\n",
		"\\\\\n":           "\\\\\\\n\n",
		"\\a\n":            "\\a\n",
		"???=\n":           "??\\\n?=\n",
		"??\n":             "??\n",
		"????\n":           "????\n",
		"??x\n":            "??x\n",
		"??/\n":            "?\\\n?/\n",
		"??/??=\n":         "?\\\n?/?\\\n?=\n",
		"??'??(??)\n":      "?\\\n?'?\\\n?(?\\\n?)\n",
		"??!??<??>??-\n":   "?\\\n?!?\\\n?<?\\\n?>?\\\n?-\n",
		"a\\\nb\\\n\n":     "a\\\\\n\nb\\\\\n\n\n",
		"\xff\\\n\x00\n":   "\xff\\\\\n\n\x00\n",
		"? ?=\n":           "? ?=\n",
		"\"a\" // b??/c\n": "\"a\" // b?\\\n?/c\n",
	} {
		if s, e := phys.Spell(l); e != api.OK || s != want {
			t.Errorf("Spell(%q): %q, %v, not %q", l, s, e, want)
		}
	}
}

func TestSpellOfWrongEnds(t *testing.T) {
	for _, l := range []string{"a", "\\", "??=", "a\n ", "\n\\", "\r", "\xff", strings.Repeat("a", api.MaxText)} {
		if s, e := phys.Spell(l); e != api.ErrEnd || s != "" {
			t.Errorf("Spell(%.20q): %.20q, %v", l, s, e)
		}
	}
}

func TestSpellOfLengths(t *testing.T) {
	// Each \ and 10 grows from 2 bytes to 4, each ??= from 3 to 5.
	quarter, fifth := api.MaxText/4, api.MaxText/5
	for _, c := range []struct {
		name, l string
		length  int
		want    api.Errno
	}{
		{"MaxText bytes", strings.Repeat("a", api.MaxText-1) + "\n", api.MaxText, api.OK},
		{"one byte more", strings.Repeat("a", api.MaxText) + "\n", 0, api.ErrText},
		{"one byte more without an end", strings.Repeat("a", api.MaxText+1), 0, api.ErrText},
		{"grown to MaxText bytes", strings.Repeat("\\\n", quarter), api.MaxText, api.OK},
		{"grown to one byte more", strings.Repeat("\\\n", quarter) + "\n", 0, api.ErrText},
		{"MaxText bytes that grow", strings.Repeat("\n", api.MaxText-2) + "\\\n", 0, api.ErrText},
		{"two bytes fewer that grow", strings.Repeat("\n", api.MaxText-4) + "\\\n", api.MaxText, api.OK},
		{"trigraphs grown to MaxText bytes", strings.Repeat("??=", fifth) + "\n", api.MaxText, api.OK},
		{"trigraphs grown to one byte more", strings.Repeat("??=", fifth) + "\n\n", 0, api.ErrText},
	} {
		if s, e := phys.Spell(c.l); e != c.want || len(s) != c.length {
			t.Errorf("%s: %d bytes, %v, not %d, %v", c.name, len(s), e, c.length, c.want)
		}
	}
}

// P1.4

func TestListsAreNew(t *testing.T) {
	s := "a??=\\\nb??/\n\n"
	l, _ := phys.Chars(s)
	splices, _ := phys.Splices(s)
	again, _ := phys.Chars(s)
	splicesAgain, _ := phys.Splices(s)
	for i := range l {
		l[i] = api.Char{}
	}
	for i := range splices {
		splices[i] = api.Span{}
	}
	want := reading(s)
	if !slices.Equal(again, want.chars) || !slices.Equal(splicesAgain, want.splices) {
		t.Error("two results share memory:", again, splicesAgain)
	}
	if after := chars(t, s); !slices.Equal(after, want.chars) {
		t.Error("a result is kept:", after)
	}
}

func TestTextsAreNew(t *testing.T) {
	for _, s := range []string{"\n", "plain\n", "a??=\\\nb\n"} {
		text, _ := phys.Logical(s)
		again, _ := phys.Logical(s)
		spelt, _ := phys.Spell(s)
		speltAgain, _ := phys.Spell(s)
		if shares(text, s) || shares(spelt, s) || shares(text, again) || shares(spelt, speltAgain) {
			t.Errorf("%q: a result shares memory", s)
		}
	}
}

// shares says whether two texts have bytes in the same place.
func shares(a, b string) bool {
	from, to := uintptr(unsafe.Pointer(unsafe.StringData(a))), uintptr(unsafe.Pointer(unsafe.StringData(b)))
	return from < to+uintptr(len(b)) && to < from+uintptr(len(a))
}

// P1.5

func TestSpellThenLogical(t *testing.T) {
	everyText("?/\\\n=-", 7, func(l string) {
		s, e := phys.Spell(l)
		if wrong := l != "" && !strings.HasSuffix(l, "\n"); wrong != (e == api.ErrEnd) {
			t.Fatalf("Spell(%q): %v", l, e)
		}
		if e != api.OK {
			return
		}
		if back, f := phys.Logical(s); f != api.OK || back != l {
			t.Fatalf("Logical of %q, spelt %q: %q, %v", l, s, back, f)
		}
	})
}

func TestSpellThenLogicalOfEveryByte(t *testing.T) {
	var all strings.Builder
	for i := range 256 {
		all.WriteString("??" + string([]byte{byte(i)}) + "\\" + string([]byte{byte(i)}))
	}
	all.WriteString("\n")
	s, e := phys.Spell(all.String())
	if back, f := phys.Logical(s); e != api.OK || f != api.OK || back != all.String() {
		t.Errorf("%v, %v, %q", e, f, back)
	}
}

func TestEachByteBelongsSomewhere(t *testing.T) {
	everyText("?/\\\n!", 7, func(s string) {
		l, e := phys.Chars(s)
		splices, _ := phys.Splices(s)
		if e != api.OK {
			return
		}
		at := 0
		for at < len(s) {
			switch {
			case len(l) > 0 && l[0].At == at && l[0].Len > 0:
				at, l = at+l[0].Len, l[1:]
			case len(splices) > 0 && splices[0].At == at && splices[0].End > at:
				at, splices = splices[0].End, splices[1:]
			default:
				t.Fatalf("%q: the byte at %d belongs to nothing", s, at)
			}
		}
		if at != len(s) || len(l) != 0 || len(splices) != 0 {
			t.Fatalf("%q: read up to %d, with %v and %v left", s, at, l, splices)
		}
	})
}

func TestCharsOfConcatenation(t *testing.T) {
	var good []string
	everyText("?/\\\n<", 4, func(s string) {
		if phys.Check(s) == api.OK {
			good = append(good, s)
		}
	})
	for _, a := range good {
		for _, b := range good {
			want := append(chars(t, a), moved(chars(t, b), len(a))...)
			if l := chars(t, a+b); !slices.Equal(l, want) {
				t.Fatalf("Chars(%q + %q): %v, not %v", a, b, l, want)
			}
		}
	}
}

func TestAdditionalSplice(t *testing.T) {
	everyText("?/\\\n=", 6, func(s string) {
		if phys.Check(s) != api.OK {
			return
		}
		l := chars(t, s)
		for i, c := range l {
			for _, splice := range []string{"\\\n", "??/\n"} {
				longer := s[:c.At] + splice + s[c.At:]
				want := append(slices.Clone(l[:i]), moved(l[i:], len(splice))...)
				if got := chars(t, longer); !slices.Equal(got, want) {
					t.Fatalf("Chars(%q), from %q: %v, not %v", longer, s, got, want)
				}
			}
		}
	})
}
