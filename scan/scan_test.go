package scan_test

import (
	"slices"
	"strconv"
	"strings"
	"testing"
	"unsafe"

	"reglet/api"
	"reglet/phys"
	"reglet/scan"
)

// tok is a token of which the place is not asked.
type tok struct {
	kind int
	text string
}

// scanned are the tokens of a text that must be read without an error.
func scanned(t *testing.T, s string) []api.Tok {
	t.Helper()
	l, e := scan.Scan(s)
	if e != api.OK {
		t.Fatalf("Scan(%.60q): %v", s, e)
	}
	return l
}

func said(l []api.Tok) []tok {
	var s []tok
	for _, t := range l {
		s = append(s, tok{t.Kind, t.Text})
	}
	return s
}

func texts(l []api.Tok) []string {
	var s []string
	for _, t := range l {
		s = append(s, t.Text)
	}
	return s
}

// wantTexts holds the texts of the tokens of each text (10 is put behind it) against those wanted, which stand between blanks.
func wantTexts(t *testing.T, of map[string]string) {
	t.Helper()
	for s, want := range of {
		l := scanned(t, s+"\n")
		if got := texts(l[:len(l)-1]); !slices.Equal(got, strings.Fields(want)) {
			t.Errorf("Scan(%q): %q, not %q", s, got, want)
		}
		if last := l[len(l)-1]; last.Kind != api.Newline || last.Text != "\n" {
			t.Errorf("Scan(%q): ends with %v", s, last)
		}
	}
}

// wantTokens holds the kinds and the texts of the tokens of each text (10 is put behind it) against those wanted.
func wantTokens(t *testing.T, of map[string][]tok) {
	t.Helper()
	for s, want := range of {
		want = append(slices.Clone(want), tok{api.Newline, "\n"})
		if got := said(scanned(t, s+"\n")); !slices.Equal(got, want) {
			t.Errorf("Scan(%q): %+v, not %+v", s, got, want)
		}
	}
}

// P2.1: the errors

func TestErrorsOfPhys(t *testing.T) {
	long := strings.Repeat("\n", api.MaxText+1)
	for s, want := range map[string]api.Errno{
		"a":                                api.ErrEnd,
		"a\\\n":                            api.ErrEnd,
		"a??/\n":                           api.ErrEnd,
		"\n ":                              api.ErrEnd,
		"'":                                api.ErrEnd,
		"/*":                               api.ErrEnd,
		"// c":                             api.ErrEnd,
		"'\n\"\\\n":                        api.ErrEnd,
		long:                               api.ErrText,
		long + "a":                         api.ErrText,
		"'" + long:                         api.ErrText,
		"/*" + long:                        api.ErrText,
		strings.Repeat("a", api.MaxText):   api.ErrEnd,
		strings.Repeat("a", api.MaxText+1): api.ErrText,
	} {
		if l, e := scan.Scan(s); e != want || len(l) != 0 {
			t.Errorf("Scan(%.20q): %d tokens, %v, not %v", s, len(l), e, want)
		}
	}
}

func TestRejected(t *testing.T) {
	for s, want := range map[string]api.Errno{
		"'a":                   api.ErrQuote,
		"''":                   api.ErrQuote,
		"u''":                  api.ErrQuote,
		"'":                    api.ErrQuote,
		"\"":                   api.ErrQuote,
		"\"a":                  api.ErrQuote,
		"L\"a":                 api.ErrQuote,
		"u8'":                  api.ErrQuote,
		"'\\'":                 api.ErrQuote,
		"\"\\\"":               api.ErrQuote,
		"\"a\\\\\n":            api.ErrQuote,
		"'a\\\\\n\n'":          api.ErrQuote,
		"\"a\nb\"":             api.ErrQuote,
		"'a\nb'":               api.ErrQuote,
		"a 'b' \"c\" 'd":       api.ErrQuote,
		"#include \"a":         api.ErrQuote,
		"#include <a> \"b":     api.ErrQuote,
		"#include \"a\"b\"":    api.ErrQuote,
		"#include 'a":          api.ErrQuote,
		"#define A \"a\\\"":    api.ErrQuote,
		"/*":                   api.ErrComment,
		"/*/":                  api.ErrComment,
		"/* a * /":             api.ErrComment,
		"/* a\nb":              api.ErrComment,
		"a/**//*":              api.ErrComment,
		"/\\\n*":               api.ErrComment,
		"#include <a> /*":      api.ErrComment,
		"#include <a /*\n>":    api.ErrComment,
		"#include /* <a>":      api.ErrComment,
		"/* '":                 api.ErrComment,
		"' /*":                 api.ErrQuote,
		"\" /*":                api.ErrQuote,
		"'a' /* '":             api.ErrComment,
		"'\n/*":                api.ErrQuote,
		"/*\n'":                api.ErrComment,
		"/**/ ' /*":            api.ErrQuote,
		"// ' \" /*\n\"":       api.ErrQuote,
		"'a' // '\n \"b\" /* ": api.ErrComment,
	} {
		if l, e := scan.Scan(s + "\n"); e != want || len(l) != 0 {
			t.Errorf("Scan(%q): %v, %v, not %v", s, texts(l), e, want)
		}
	}
}

func TestNotRejected(t *testing.T) {
	for _, s := range []string{
		"", "'\"'", "\"'\"", "'\\''", "\"\\\"\"", "// '", "// /*", "/* ' */", "/* \" */", "/* /* */", "/*// */",
		"\"/*\"", "'/*'", "*/", "#include </*>", "#include \"/*\"", "#include <'>", "#include <\">", "#include \"'\"", "// \"\\\n'",
	} {
		if l, e := scan.Scan(s + "\n"); e != api.OK || l[len(l)-1].Kind != api.Newline {
			t.Errorf("Scan(%q): %v, %v", s, texts(l), e)
		}
	}
}

// P2.1: the kinds and the texts

func TestEmptyText(t *testing.T) {
	if l := scanned(t, ""); len(l) != 0 {
		t.Error(l)
	}
	if l := scanned(t, "\n"); !slices.Equal(l, []api.Tok{{Kind: api.Newline, Text: "\n", At: 0, End: 1}}) {
		t.Error(l)
	}
	if l := scanned(t, " \t\v\f\n"); !slices.Equal(l, []api.Tok{{Kind: api.Newline, Text: "\n", At: 4, End: 5, Space: true}}) {
		t.Error(l)
	}
}

func TestExamples(t *testing.T) {
	wantTexts(t, map[string]string{
		"a+++b":           "a ++ + b",
		"1.e+x.y-1":       "1.e+x.y - 1",
		"#include <a//b>": "# include <a//b>",
		"x <a> y":         "x < a > y",
		"L'a' u8'c'":      "L'a' u8 'c'",
	})
	wantTokens(t, map[string][]tok{
		"1.e+x.y-1":       {{api.Number, "1.e+x.y"}, {api.Punct, "-"}, {api.Number, "1"}},
		"#include <a//b>": {{api.Punct, "#"}, {api.Word, "include"}, {api.Header, "<a//b>"}},
		"L'a' u8\"b\" u8'c'": {{api.Chars, "L'a'"}, {api.String, "u8\"b\""}, {api.Word, "u8"},
			{api.Chars, "'c'"}},
		"a/**/b // c": {{api.Word, "a"}, {api.Comment, "/**/"}, {api.Word, "b"}, {api.Comment, "// c"}},
	})
}

func TestEachPunct(t *testing.T) {
	for _, p := range puncts() {
		wantTokens(t, map[string][]tok{p: {{api.Punct, p}}, "a" + p + "a": {{api.Word, "a"}, {api.Punct, p}, {api.Word, "a"}}})
	}
}

func TestLongestByOne(t *testing.T) {
	wantTexts(t, map[string]string{
		"<<=":      "<<=",
		"<<<":      "<< <",
		"<<>":      "<< >",
		">>>=":     ">> >=",
		">>==":     ">>= =",
		"...":      "...",
		"..":       ". .",
		"....":     "... .",
		".....":    "... . .",
		"..1":      ". .1",
		"...1":     "... 1",
		".1":       ".1",
		".a":       ". a",
		"->*":      "-> *",
		"--->":     "-- ->",
		"-->":      "-- >",
		"%:%:":     "%:%:",
		"%:%":      "%: %",
		"%:%>":     "%: %>",
		"%%:":      "% %:",
		"%:%:%:":   "%:%: %:",
		"<::>":     "<: :>",
		"<:::":     "<: : :",
		"<%%>":     "<% %>",
		"<:%>":     "<: %>",
		"##":       "##",
		"###":      "## #",
		"&&&":      "&& &",
		"|||=":     "|| |=",
		"+++=":     "++ +=",
		"===":      "== =",
		"!==":      "!= =",
		"^==":      "^= =",
		"a1_":      "a1_",
		"1a_":      "1a_",
		"1e+":      "1e+",
		"1e":       "1e",
		"1e+-1":    "1e+ - 1",
		"1p-E+.5":  "1p-E+.5",
		"1f+1":     "1f + 1",
		"0x1P-2e1": "0x1P-2e1",
		"e+1":      "e + 1",
		"1..2":     "1..2",
		"1...":     "1...",
		"1.a.":     "1.a.",
		"/ /":      "/ /",
		"/=":       "/=",
		"*/":       "* /",
		"_$a":      "_ $ a",
		"__":       "__",
	})
}

func TestOther(t *testing.T) {
	for i := range 256 {
		c := string([]byte{byte(i)})
		known := strings.ContainsAny(c, " \t\v\f\n'\"_") || '0' <= i && i <= '9' || 'a' <= i && i <= 'z' || 'A' <= i && i <= 'Z'
		if known || slices.Contains(puncts(), c) {
			continue
		}
		// The blank keeps \ and the end of the line apart.
		wantTokens(t, map[string][]tok{c + c + " ": {{api.Other, c}, {api.Other, c}}, "a" + c + "1": {{api.Word, "a"}, {api.Other, c}, {api.Number, "1"}}})
	}
	// The first \ stays ahead of the end of the line, since what a splice leaves is not read again.
	wantTokens(t, map[string][]tok{"\\\\\n": {{api.Other, "\\"}}})
}

func TestQuotes(t *testing.T) {
	for _, text := range []string{"'a'", "u'a'", "U'a'", "L'a'", "'ab'", "'\"'", "'\\''", "'\\\\'", "'\\\"'", "' '", "'//'", "'/*'", "'\x80'", "'\\\xff'", "L'\\'\\''"} {
		wantTokens(t, map[string][]tok{text: {{api.Chars, text}}, text + "a": {{api.Chars, text}, {api.Word, "a"}}, text + "'a'": {{api.Chars, text}, {api.Chars, "'a'"}}})
	}
	for _, text := range []string{`""`, `u8""`, `u""`, `U""`, `L""`, `"a"`, `u8"a"`, `L"'"`, `"\""`, `"\\"`, `"\\\""`, `"//"`, `"/*"`, `" "`, "\"\xff\"", "\"\t\""} {
		wantTokens(t, map[string][]tok{text: {{api.String, text}}, text + "a": {{api.String, text}, {api.Word, "a"}}, text + `"a"`: {{api.String, text}, {api.String, `"a"`}}})
	}
	wantTokens(t, map[string][]tok{
		"u8'a'":    {{api.Word, "u8"}, {api.Chars, "'a'"}},
		"LL'a'":    {{api.Word, "LL"}, {api.Chars, "'a'"}},
		"l'a'":     {{api.Word, "l"}, {api.Chars, "'a'"}},
		"U8\"a\"":  {{api.Word, "U8"}, {api.String, "\"a\""}},
		"u8u\"a\"": {{api.Word, "u8u"}, {api.String, "\"a\""}},
		"1L\"a\"":  {{api.Number, "1L"}, {api.String, "\"a\""}},
		"u 'a'":    {{api.Word, "u"}, {api.Chars, "'a'"}},
		"\"a\"L":   {{api.String, "\"a\""}, {api.Word, "L"}},
		"'a'\"b\"": {{api.Chars, "'a'"}, {api.String, "\"b\""}},
	})
}

func TestComments(t *testing.T) {
	for _, c := range []string{"/**/", "/***/", "/****/", "/*/*/", "/* /* */", "/*\n*/", "/*\n\n//*/", "/*'*/", "/*\"*/", "//", "///", "// ", "//*", "// /*", "//*/", "// '", "//\\ ", "//\x80 \t"} {
		wantTokens(t, map[string][]tok{c: {{api.Comment, c}}, "a" + c: {{api.Word, "a"}, {api.Comment, c}}})
	}
	wantTokens(t, map[string][]tok{
		"/*a*/b*/":        {{api.Comment, "/*a*/"}, {api.Word, "b"}, {api.Punct, "*"}, {api.Punct, "/"}},
		"/**/*/":          {{api.Comment, "/**/"}, {api.Punct, "*"}, {api.Punct, "/"}},
		"/ **/":           {{api.Punct, "/"}, {api.Punct, "*"}, {api.Punct, "*"}, {api.Punct, "/"}},
		"// a\nb":         {{api.Comment, "// a"}, {api.Newline, "\n"}, {api.Word, "b"}},
		"// a\\\nb":       {{api.Comment, "// ab"}},
		"/\\\n/ a":        {{api.Comment, "// a"}},
		"/??/\n* *??/\n/": {{api.Comment, "/* */"}},
		"// \\\\\n\na":    {{api.Comment, "// \\"}, {api.Newline, "\n"}, {api.Word, "a"}},
	})
}

func TestHeaders(t *testing.T) {
	for _, h := range []string{"<a>", "<>", "\"\"", "\"a\"", "<a b>", "<//>", "</*>", "<'>", "<\">", "<<>", "\"'\"", "\"<\"", "\"\\\"", "\"//\"", "<\\>", "<\x80>", "< >"} {
		for _, ahead := range []string{"#include", "%:include", " # include ", "??=include", "/**/#include", "#/*\n*/include", "#include/**/", "#include /*\n*/ ", "/*\n*/%:/**/ include\t", "#inc\\\nlude\\\n", "\\\n#include", "a\n#include", "// a\n#include", "#\n#include"} {
			l := scanned(t, ahead+h+"\n")
			got := l[len(l)-2]
			if got.Kind != api.Header || got.Text != h {
				t.Errorf("behind %q: %v, not the header %q", ahead, got, h)
			}
		}
	}
}

func TestNoHeaders(t *testing.T) {
	for _, s := range []string{
		"x <a> y", "<a>", "include <a>", "a #include <a>", "#a include <a>", "# #include <a>", "## include <a>", "#include a <a>", "#includes <a>", "#Include <a>",
		"#include_next <a>", "#define <a>", "#include\n<a>", "#\ninclude <a>", "#include // \n<a>", "%:%:include <a>", "%:# include <a>", "#include <a\n>", "#include <a /*\n*/ b>",
		"%include <a>", ": include <a>", "#include < b\\\\\n\n>",
	} {
		for _, x := range scanned(t, s+"\n") {
			if x.Kind == api.Header {
				t.Errorf("Scan(%q): the header %q", s, x.Text)
			}
		}
	}
	wantTokens(t, map[string][]tok{
		"#include <a> <b>":    {{api.Punct, "#"}, {api.Word, "include"}, {api.Header, "<a>"}, {api.Punct, "<"}, {api.Word, "b"}, {api.Punct, ">"}},
		"#include <a>>":       {{api.Punct, "#"}, {api.Word, "include"}, {api.Header, "<a>"}, {api.Punct, ">"}},
		"#include \"a\"\"b\"": {{api.Punct, "#"}, {api.Word, "include"}, {api.Header, "\"a\""}, {api.String, "\"b\""}},
		"#include \"\\\"a":    {{api.Punct, "#"}, {api.Word, "include"}, {api.Header, "\"\\\""}, {api.Word, "a"}},
		"#include L\"a\"":     {{api.Punct, "#"}, {api.Word, "include"}, {api.String, "L\"a\""}},
		"#define A \"\\\"a\"": {{api.Punct, "#"}, {api.Word, "define"}, {api.Word, "A"}, {api.String, "\"\\\"a\""}},
		"#include <a":         {{api.Punct, "#"}, {api.Word, "include"}, {api.Punct, "<"}, {api.Word, "a"}},
		"#include // <a>":     {{api.Punct, "#"}, {api.Word, "include"}, {api.Comment, "// <a>"}},
		"#include <a /* */ >": {{api.Punct, "#"}, {api.Word, "include"}, {api.Header, "<a /* */ >"}},
	})
}

// P2.1: At, End and Space

func TestPlaces(t *testing.T) {
	for s, want := range map[string][]api.Tok{
		"a  bc\n":                   {{Kind: api.Word, Text: "a", At: 0, End: 1}, {Kind: api.Word, Text: "bc", At: 3, End: 5, Space: true}, {Kind: api.Newline, Text: "\n", At: 5, End: 6}},
		"a\\\nb??/\n\n":             {{Kind: api.Word, Text: "ab", At: 0, End: 4}, {Kind: api.Newline, Text: "\n", At: 8, End: 9}},
		"\\\n??=??/\n\\\n??=\\\n\n": {{Kind: api.Punct, Text: "##", At: 2, End: 14}, {Kind: api.Newline, Text: "\n", At: 16, End: 17}},
		"'??/\\\n''\n":              {{Kind: api.Chars, Text: "'\\''", At: 0, End: 8}, {Kind: api.Newline, Text: "\n", At: 8, End: 9}},
		"\"??!??\\\n!\"\n":          {{Kind: api.String, Text: "\"|??!\"", At: 0, End: 10}, {Kind: api.Newline, Text: "\n", At: 10, End: 11}},
		"/\\\n*\n*??/\n/ ??-\n":     {{Kind: api.Comment, Text: "/*\n*/", At: 0, End: 11}, {Kind: api.Punct, Text: "~", At: 12, End: 15, Space: true}, {Kind: api.Newline, Text: "\n", At: 15, End: 16}},
		"??=include <??(>\n": {{Kind: api.Punct, Text: "#", At: 0, End: 3}, {Kind: api.Word, Text: "include", At: 3, End: 10},
			{Kind: api.Header, Text: "<[>", At: 11, End: 16, Space: true}, {Kind: api.Newline, Text: "\n", At: 16, End: 17}},
		"???/\n?=\n": {{Kind: api.Punct, Text: "?", At: 0, End: 1}, {Kind: api.Punct, Text: "?", At: 5, End: 6}, {Kind: api.Punct, Text: "=", At: 6, End: 7}, {Kind: api.Newline, Text: "\n", At: 7, End: 8}},
		"\xe9\n":     {{Kind: api.Other, Text: "\xe9", At: 0, End: 1}, {Kind: api.Newline, Text: "\n", At: 1, End: 2}},
	} {
		if l := scanned(t, s); !slices.Equal(l, want) {
			t.Errorf("Scan(%q): %v, not %v", s, l, want)
		}
	}
}

func TestSpace(t *testing.T) {
	// Each token that should have white space directly before it begins with s, and no other.
	for _, s := range []string{
		"a s\n", "a\ts\n", "a\vs\n", "a\fs\n", " s\n", "a\n s\n", "a\nb\n", "a\\\nb\n", "a \\\ns\n", "a\\\n s\n", "a\\\n\\\n\ts\n",
		"/**/b\n", "/**/ s\n", "/* */b\n", "/* */ s /**/ s\n", "a+b\n", "a\rb\n", "a\x00b\n", "\\\n s\n", "\\\na\n", "\" \" s\n", "a\" \"b\n", "#include< a>b\n",
	} {
		for _, x := range scanned(t, s) {
			if want := strings.HasPrefix(x.Text, "s"); x.Kind == api.Word && x.Space != want {
				t.Errorf("Scan(%q): %v", s, x)
			}
		}
	}
	for s, want := range map[string]string{
		// One digit a token: 1 where Space is true.
		"a \n":               "01",
		"a\n\n":              "000",
		"a\n \n":             "001",
		"// a \n":            "00",
		"// a\t\\\n \n":      "00",
		" // a\n":            "10",
		"a /* */\n":          "010",
		"a/* */ /**/ \n":     "0011",
		"# include <a>\n":    "0110",
		"#include \"a\" b\n": "00110",
	} {
		got := ""
		for _, x := range scanned(t, s) {
			if x.Space {
				got += "1"
			} else {
				got += "0"
			}
		}
		if got != want {
			t.Errorf("Scan(%q): %s, not %s", s, got, want)
		}
	}
}

// P2.1: all of it

func TestScanOfManyTexts(t *testing.T) {
	manyTexts(func(logical string) {
		logical += "\n"
		if l, _ := phys.Logical(logical); l != logical {
			return // TestScanOfSplicedTexts reads it.
		}
		want, e := known(logical)
		if l, f := scan.Scan(logical); f != e || !slices.Equal(l, want) {
			t.Fatalf("Scan(%q): %+v, %v, not %+v, %v", logical, l, f, want, e)
		}
	})
}

// spliced is a text with the logical text given, with n % 3 splices before each character and trigraphs for what they stand for, and the place of each character's begin and end in it.
func spliced(logical string) (s string, begins, ends []int) {
	var text strings.Builder
	for i := range len(logical) {
		for k := range 1 + i%2 {
			text.WriteString([]string{"\\\n", "??/\n"}[(i+k)%2])
		}
		begins = append(begins, text.Len())
		if at := strings.IndexByte("#\\^[]|{}~", logical[i]); at >= 0 && i%3 > 0 {
			text.WriteString("??" + "=/'()!<>-"[at:at+1])
		} else {
			text.WriteByte(logical[i])
		}
		ends = append(ends, text.Len())
	}
	return text.String(), begins, ends
}

func TestScanOfSplicedTexts(t *testing.T) {
	manyTexts(func(logical string) {
		logical += "\n"
		s, begins, ends := spliced(logical)
		if back, e := phys.Logical(s); e != api.OK || back != logical {
			t.Fatalf("%q is %q with splices: %v, %q", s, logical, e, back)
		}
		want, e := known(logical)
		for i := range want {
			want[i].At, want[i].End = begins[want[i].At], ends[want[i].End-1]
		}
		if l, f := scan.Scan(s); f != e || !slices.Equal(l, want) {
			t.Fatalf("Scan(%q): %+v, %v, not %+v, %v", s, l, f, want, e)
		}
	})
}

func TestScanOfLongestTexts(t *testing.T) {
	for _, part := range []string{"a", "1", ".", "1e+", "<", "%:", "'a'", "\"\"", "u", "L\"a\"", "\\x", " ", "\n", "/**/", "/* ", "// ", "??=", "x\\\n", "#include <a\n", "#include <a>\n", "# ", "\x80", "'", "\"\\\"", "'\\'"} {
		n := (api.MaxText - 1) / len(part)
		logical, e := phys.Logical(strings.Repeat(part, n) + "\n")
		if e != api.OK {
			t.Fatal(e)
		}
		l, e := scan.Scan(strings.Repeat(part, n) + "\n")
		if wrong := part == "/* " || part == "'" || part == "\"\\\"" || part == "'\\'"; wrong != (e != api.OK) {
			t.Errorf("%q, often: %v", part, e)
		}
		if e == api.OK && !strings.Contains(logical, " ") && strings.Join(texts(l), "") != logical {
			t.Errorf("%q, often: the texts of the tokens are not the text", part)
		}
	}
}

// P2.2

func TestOne(t *testing.T) {
	for text, want := range map[string]int{
		"a": api.Word, "_": api.Word, "u8": api.Word, "a1": api.Word, "int": api.Word,
		"1": api.Number, ".1": api.Number, "1.e+x.y": api.Number, "08..": api.Number,
		"'a'": api.Chars, "L'\\''": api.Chars, "u'ab'": api.Chars,
		"\"\"": api.String, "u8\"a\"": api.String, "\"\\\\\"": api.String,
		"@": api.Other, "\\": api.Other, "\x80": api.Other, "\x00": api.Other, "\r": api.Other, "`": api.Other, "$": api.Other,
		"/**/": api.Comment, "/*\n*/": api.Comment, "//": api.Comment, "// a ": api.Comment, "// \\": api.Comment,
		"\n": api.Newline,
		// Logical texts: these are no trigraph and no splice.
		"\"??=\"": api.String, "\"\\a\"": api.String, "/*\\\n*/": api.Comment, "// ??/": api.Comment,
	} {
		if kind, is := scan.One(text); !is || kind != want {
			t.Errorf("One(%q): %d, %v, not %d", text, kind, is, want)
		}
	}
	for _, p := range puncts() {
		if kind, is := scan.One(p); !is || kind != api.Punct {
			t.Errorf("One(%q): %d, %v", p, kind, is)
		}
	}
}

func TestOneOfNoToken(t *testing.T) {
	for _, text := range []string{
		"", " ", "\t", " a", "a ", "a\n", "\n\n", " \n", "\na", "a b", "ab+", "..", "1+", "+1", "a.b", "??", "??=", "a\\\nb", "\\\n",
		"'", "''", "'a", "u''", "\"", "\"a", "\"a\nb\"", "'\\'", "u8'a'", "'a'b", "\"a\"b",
		"/*", "/*/", "/**/ ", " /**/", "/**//**/", "// a\n", "// a\nb", "/**/'", "a'", "a/*",
		"<a>", "#include <a>", "#include", "\xc3\xa9", "++=", "%:%",
	} {
		if kind, is := scan.One(text); is || kind != 0 {
			t.Errorf("One(%q): %d, %v", text, kind, is)
		}
	}
}

func TestOneOfManyTexts(t *testing.T) {
	manyTexts(func(text string) {
		want, e := known(text)
		one := e == api.OK && len(want) == 1 && want[0].Text == text
		kind, is := scan.One(text)
		if is != one || one && kind != want[0].Kind || !one && kind != 0 {
			t.Fatalf("One(%q): %d, %v, of %+v, %v", text, kind, is, want, e)
		}
	})
}

func TestOneOfLongTexts(t *testing.T) {
	long := strings.Repeat("a", api.MaxText*4)
	for text, want := range map[string]int{long: api.Word, "1" + long: api.Number, "\"" + long + "\"": api.String, "//" + long: api.Comment} {
		if kind, is := scan.One(text); !is || kind != want {
			t.Errorf("One(%.5q..): %d, %v", text, kind, is)
		}
		if _, is := scan.One(text + "\n"); is {
			t.Errorf("One(%.5q..) with 10 behind it", text)
		}
	}
}

// P2.3

func TestFuses(t *testing.T) {
	for _, c := range []struct {
		a, b string
		want bool
	}{
		{"+", "+", true}, {"a", "1", true}, {"1", "a", true}, {"/", "*", true}, {"a", "+", false},
		{"a", "b", true}, {"1", "2", true}, {"1", ".", true}, {".", "1", true}, {"1", "...", true}, {".", ".", false}, {".", "...", true},
		{"1", "+", false}, {"1e", "+", true}, {"1e", "-", true}, {"1E", "++", true}, {"1p", "->", true}, {"1e", "=", false}, {"1f", "+", false},
		{"+", "=", true}, {"<", "<=", true}, {"<<", "=", true}, {"<", ":", true}, {"%", ":", true}, {"%:", "%:", true}, {"%:", "%", false}, {"#", "#", true}, {"##", "#", false}, {"-", ">", true}, {"-", ">=", true}, {"-", ">>", true}, {"->", ">", false}, {"+", "-", false}, {"(", ")", false},
		{"/", "/", true}, {"/", "/**/", true}, {"/", "// a", true}, {"/", "=", true}, {"/", "*=", true}, {"*", "/", false}, {"*", "/**/", false},
		{"L", "'a'", true}, {"L", "\"a\"", true}, {"u8", "\"a\"", true}, {"u8", "'a'", false}, {"l", "'a'", false}, {"U8", "\"a\"", false}, {"1L", "'a'", false}, {"'a'", "'a'", false}, {"\"a\"", "\"a\"", false}, {"\"a\"", "b", false}, {"'a'", "L", false},
		{"// a", "\n", false}, {"// a", "b", true}, {"// a", "/**/", true}, {"//", "// ", true}, {"/**/", "a", false}, {"/**/", "/**/", false}, {"/**/", "// a", false}, {"\n", "\n", false}, {"a", "\n", false}, {"\n", "a", false}, {"// \\", "\n", false}, {"\\", "\n", false},
		{"\\", "a", false}, {"\\", "\\", false}, {"\xc3", "\xa9", false}, {"@", "1", false}, {"?", "?", false}, {"#", "include", false}, {"_", "0", true}, {"0", "_", true}, {"a", ".", false}, {"a", ".5", false},
	} {
		if f, e := scan.Fuses(c.a, c.b); e != api.OK || f != c.want {
			t.Errorf("Fuses(%q, %q): %v, %v", c.a, c.b, f, e)
		}
	}
}

func TestFusesOfNoToken(t *testing.T) {
	for _, no := range []string{"", " ", "a b", " a", "a ", "..", "'", "''", "\"", "/*", "<a>", "// a\n", "??=", "\n\n", "a\n", "u8'a'"} {
		for _, one := range []string{"a", "+", "\n", "// a", "/**/", no} {
			if f, e := scan.Fuses(one, no); e != api.ErrArg || f {
				t.Errorf("Fuses(%q, %q): %v, %v", one, no, f, e)
			}
			if f, e := scan.Fuses(no, one); e != api.ErrArg || f {
				t.Errorf("Fuses(%q, %q): %v, %v", no, one, f, e)
			}
		}
	}
}

func TestFusesOfManyPairs(t *testing.T) {
	tokens := append(puncts(), "a", "L", "u", "u8", "U", "e", "include", "1", "1e", ".5", "0x1p", "'a'", "L'a'", "u'\\''", "\"\"", "\"a\"", "u8\"\\\\\"", "L\"'\"",
		"\\", "@", "\x80", "\r", "/**/", "/* */", "/*\n*/", "//", "// a", "//\\", "//*", "\n")
	for _, a := range tokens {
		for _, b := range tokens {
			l, e := known(a + b)
			want := e != api.OK || !slices.Equal(texts(l), []string{a, b})
			if f, e := scan.Fuses(a, b); e != api.OK || f != want {
				t.Errorf("Fuses(%q, %q): %v, %v, not %v", a, b, f, e, want)
			}
		}
	}
}

// P2.4

func TestBare(t *testing.T) {
	l := scanned(t, "a/**/b c // d\ne\n /**/f/**/\n\n#g\n")
	want := []api.Tok{
		{Kind: api.Word, Text: "a", At: 0, End: 1},
		{Kind: api.Word, Text: "b", At: 5, End: 6, Space: true},
		{Kind: api.Word, Text: "c", At: 7, End: 8, Space: true},
		{Kind: api.Word, Text: "e", At: 14, End: 15, Space: true},
		{Kind: api.Word, Text: "f", At: 21, End: 22, Space: true},
		{Kind: api.Punct, Text: "#", At: 28, End: 29, Space: true},
		{Kind: api.Word, Text: "g", At: 29, End: 30},
	}
	if bare := scan.Bare(l); !slices.Equal(bare, want) {
		t.Errorf("%v, not %v", bare, want)
	}
}

func TestBareOfNothing(t *testing.T) {
	for _, l := range [][]api.Tok{nil, {}, {{Kind: api.Comment}}, {{Kind: api.Newline}, {Kind: api.Comment, Space: true}}} {
		if bare := scan.Bare(l); len(bare) != 0 {
			t.Errorf("Bare(%v): %v", l, bare)
		}
	}
}

func TestBareOfAnyList(t *testing.T) {
	kinds := []int{api.Comment, api.Newline, api.Word, 0, -8, 10, 1 << 40}
	var lists func(l []api.Tok, n int)
	lists = func(l []api.Tok, n int) {
		var want []api.Tok
		for i, x := range l {
			if x.Kind == api.Comment || x.Kind == api.Newline {
				continue
			}
			if i > 0 && (l[i-1].Kind == api.Comment || l[i-1].Kind == api.Newline) {
				x.Space = true
			}
			want = append(want, x)
		}
		if bare := scan.Bare(l); !slices.Equal(bare, want) {
			t.Fatalf("Bare(%v): %v, not %v", l, bare, want)
		}
		if n == 0 {
			return
		}
		for _, kind := range kinds {
			for _, space := range []bool{false, true} {
				// What else a token says is kept, whatever it is.
				x := api.Tok{Kind: kind, Text: strconv.Itoa(n) + "\n/**/", At: -n, End: kind, Space: space}
				lists(append(slices.Clone(l), x), n-1)
			}
		}
	}
	lists(nil, 4)
}

// P2.5

func TestArgumentsAreOnlyRead(t *testing.T) {
	whole := scanned(t, "a/**/b\nc d\n/**/\n")
	l := whole[:5:len(whole)]
	before := slices.Clone(whole)
	bare := scan.Bare(l)
	if !slices.Equal(whole, before) {
		t.Error("Bare changes its argument:", whole)
	}
	for i := range bare {
		bare[i] = api.Tok{}
	}
	_ = append(bare, api.Tok{}, api.Tok{})
	if !slices.Equal(whole, before) {
		t.Error("Bare hands out its argument:", whole)
	}
}

func TestResultsAreNew(t *testing.T) {
	s := "a/**/b \"c\"\n"
	l, again := scanned(t, s), scanned(t, s)
	want := slices.Clone(again)
	bare, bareAgain := scan.Bare(l), scan.Bare(l)
	wantBare := slices.Clone(bareAgain)
	for i := range l {
		l[i] = api.Tok{}
	}
	for i := range bare {
		bare[i] = api.Tok{}
	}
	if !slices.Equal(again, want) || !slices.Equal(scanned(t, s), want) || !slices.Equal(bareAgain, wantBare) {
		t.Error("two results share memory, or a result is kept")
	}
}

func TestTextsAreNew(t *testing.T) {
	s := strings.Clone("plain text\n")
	l := scanned(t, s)
	for _, x := range l {
		if shares(x.Text, s) {
			t.Errorf("%q shares memory with the text that was scanned", x.Text)
		}
	}
	for i, x := range scan.Bare(l) {
		if shares(x.Text, l[i].Text) {
			t.Errorf("%q shares memory with the list that Bare was given", x.Text)
		}
	}
}

// shares says whether two texts have bytes in the same place.
func shares(a, b string) bool {
	from, to := uintptr(unsafe.Pointer(unsafe.StringData(a))), uintptr(unsafe.Pointer(unsafe.StringData(b)))
	return from < to+uintptr(len(b)) && to < from+uintptr(len(a))
}

// P2.6

// onlyBetween says whether a piece of a text is white space and splices alone.
func onlyBetween(s string) bool {
	return strings.Trim(strings.NewReplacer("\\\n", "", "??/\n", "").Replace(s), " \t\v\f") == ""
}

func TestBetweenTokens(t *testing.T) {
	check := func(s string) {
		l, e := scan.Scan(s)
		if e != api.OK {
			return
		}
		end := 0
		for _, x := range l {
			if x.At < end || x.End <= x.At || x.End > len(s) || !onlyBetween(s[end:x.At]) {
				t.Fatalf("Scan(%q): %v behind %d", s, x, end)
			}
			end = x.End
		}
		if !onlyBetween(s[end:]) {
			t.Fatalf("Scan(%q): nothing behind %d", s, end)
		}
	}
	manyTexts(func(s string) {
		check(s + "\n")
		mixed, _, _ := spliced(s + "\n")
		check(mixed)
	})
}

func TestAdjacentTokensDoNotFuse(t *testing.T) {
	met := 0
	manyTexts(func(s string) {
		l, _ := scan.Scan(s + "\n")
		for i := 1; i < len(l); i++ {
			if l[i-1].End != l[i].At {
				continue
			}
			met++
			if f, _ := scan.Fuses(l[i-1].Text, l[i].Text); f {
				t.Fatalf("Scan(%q): %q and %q fuse", s, l[i-1].Text, l[i].Text)
			}
		}
	})
	if met < 10000 {
		t.Error("too few adjacent tokens:", met)
	}
}

func TestSetApartAndSpelt(t *testing.T) {
	manyTexts(func(s string) {
		spelt, e := phys.Spell(s + "\n")
		if e != api.OK {
			t.Fatalf("Spell(%q): %v", s, e)
		}
		l, e := scan.Scan(spelt)
		if e != api.OK {
			return
		}
		apart := ""
		for _, x := range l {
			if x.Kind != api.Newline {
				apart += " "
			}
			apart += x.Text
		}
		spelt, e = phys.Spell(apart)
		if e != api.OK {
			t.Fatalf("Spell(%q): %v", apart, e)
		}
		if again := scanned(t, spelt); !slices.Equal(said(again), said(l)) {
			t.Fatalf("%q set apart, %q: %+v, not %+v", s, apart, again, l)
		}
	})
}
