package lines_test

import (
	"slices"
	"strconv"
	"strings"
	"testing"
	"unsafe"

	"reglet/api"
	"reglet/lines"
	"reglet/scan"
)

// scanned are the tokens of a text that must be read without an error.
func scanned(t *testing.T, s string) []api.Tok {
	t.Helper()
	l, e := scan.Scan(s)
	if e != api.OK {
		t.Fatalf("Scan(%q): %v", s, e)
	}
	return l
}

// rows are the rows of a text that must be read without an error.
func rows(t *testing.T, s string) []api.Row {
	t.Helper()
	return lines.Rows(scanned(t, s))
}

// shown is rows written one behind another: of a directive # and its name, of a run the word run, then the texts of the content.
func shown(l []api.Row) string {
	var parts []string
	for _, r := range l {
		part := []string{"run" + r.Name}
		if r.Directive {
			part[0] = "#" + r.Name
		}
		for _, t := range lines.Says(r) {
			part = append(part, t.Text)
		}
		parts = append(parts, strings.Join(part, " "))
	}
	return strings.Join(parts, " / ")
}

// P3.1: Rows

func TestRowsOfNothing(t *testing.T) {
	for _, l := range [][]api.Tok{nil, {}} {
		if r := lines.Rows(l); len(r) != 0 {
			t.Error(r)
		}
	}
	if r := rows(t, ""); len(r) != 0 {
		t.Error(r)
	}
}

func TestRows(t *testing.T) {
	for s, want := range map[string]string{
		// The chapter's examples.
		"a\n#define X\nb\nc\n": "run a / #define X / run b c",
		"/* x */ # 12\n":       "# 12",
		"#\n":                  "#",

		"\n":                              "run",
		"\n\n \n":                         "run",
		"// a\n/* b\n */\n\n":             "run",
		"a\n":                             "run a",
		"a\n\n// c\nb\n":                  "run a b",
		"%:define X\n":                    "#define X",
		"??=define X\n":                   "#define X",
		"/**/%:/**/if/**/1\n":             "#if 1",
		"/*\n*/#/*\n*/else/*\n*/a\n":      "#else a",
		"a #define X\n":                   "run a # define X",
		"a/**/# b\n":                      "run a # b",
		"## define\n":                     "run ## define",
		"%:%: define\n":                   "run %:%: define",
		"# #define\n":                     "# # define",
		"#/**/\n":                         "#",
		"# // a\n":                        "#",
		"#\ndefine\n":                     "# / run define",
		"#1 a\n":                          "# 1 a",
		"#\"a\" b\n":                      "# \"a\" b",
		"#'a' b\n":                        "# 'a' b",
		"#+ b\n":                          "# + b",
		"#@ b\n":                          "# @ b",
		"#include <a> b\n":                "#include <a> b",
		"#\\\ndef\\\nine X\n":             "#define X",
		"#define X \\\n y\nz\n":           "#define X y / run z",
		"#a\n#b\n":                        "#a / #b",
		"#a\n\n#b\n":                      "#a / run / #b",
		"#a\nb\n// c\n\nd\n#e\n":          "#a / run b d / #e",
		"#a\n/**/\n/**/ #b\n/**/\n":       "#a / run / #b / run",
		"/* a\n# b */\n#c /* d\n#e */f\n": "run / #c f",
	} {
		l := scanned(t, s)
		got := lines.Rows(l)
		if shown(got) != want {
			t.Errorf("Rows of %q: %s, not %s", s, shown(got), want)
		}
		if !slices.Equal(concatenated(got), l) {
			t.Errorf("Rows of %q: their tokens are not those of the text: %+v", s, got)
		}
	}
}

func TestRowsHaveAllFields(t *testing.T) {
	got := rows(t, "a/**/\n\n #if b\nc\n")
	want := []api.Row{
		{Toks: []api.Tok{
			{Kind: api.Word, Text: "a", At: 0, End: 1}, {Kind: api.Comment, Text: "/**/", At: 1, End: 5},
			{Kind: api.Newline, Text: "\n", At: 5, End: 6}, {Kind: api.Newline, Text: "\n", At: 6, End: 7}}},
		{Directive: true, Name: "if", Toks: []api.Tok{
			{Kind: api.Punct, Text: "#", At: 8, End: 9, Space: true}, {Kind: api.Word, Text: "if", At: 9, End: 11},
			{Kind: api.Word, Text: "b", At: 12, End: 13, Space: true}, {Kind: api.Newline, Text: "\n", At: 13, End: 14}}},
		{Toks: []api.Tok{{Kind: api.Word, Text: "c", At: 14, End: 15}, {Kind: api.Newline, Text: "\n", At: 15, End: 16}}},
	}
	if !equalRows(got, want) {
		t.Errorf("%+v, not %+v", got, want)
	}
}

func TestRowsOfUnfinishedLists(t *testing.T) {
	for text, want := range map[string]string{
		"o":     "run 1",
		"on#":   "run 1 / #",
		"on#w":  "run 1 / #include",
		"#wn#":  "#include / #",
		"#wno":  "#include / run 1",
		"nno":   "run 1",
		"#wnc":  "#include / run",
		"c#cwo": "#include 1",
		"#p":    "# ##",
		"#fw":   "## include",
		"q#":    "run # #",
		"f#":    "run # #",
	} {
		if got := lines.Rows(toks(text)); shown(got) != want {
			t.Errorf("Rows of %s: %s, not %s", text, shown(got), want)
		}
	}
}

func TestRowsOfEveryShortList(t *testing.T) {
	n := 0
	everyText(strings.Split("# % w f o c n", " "), 6, func(text string) {
		n++
		if got, want := lines.Rows(toks(text)), wantRows(text); !equalRows(got, want) {
			t.Fatalf("Rows of %s: %+v, not %+v", text, got, want)
		}
	})
	everyText(strings.Split("# p q c n", " "), 5, func(text string) {
		n++
		if got, want := lines.Rows(toks(text)), wantRows(text); !equalRows(got, want) {
			t.Fatalf("Rows of %s: %+v, not %+v", text, got, want)
		}
	})
	if n < 100000 {
		t.Error("too few lists:", n)
	}
}

func TestOnlyAPunctBeginsADirective(t *testing.T) {
	for _, text := range []string{"#", "%:", "##", "%:%:", "%", ":", "", " #", "# ", "#\n", "define", "??="} {
		for _, kind := range []int{-5, 0, api.Word, api.Number, api.Chars, api.String, api.Punct, api.Other, api.Header, api.Line, api.Made, 1 << 40} {
			want := kind == api.Punct && (text == "#" || text == "%:")
			for _, ahead := range []string{"", "c", "cc"} {
				got := lines.Rows(append(toks(ahead), api.Tok{Kind: kind, Text: text}))
				if len(got) != 1 || got[0].Directive != want || got[0].Name != "" {
					t.Errorf("Rows of the kind %d, %q: %+v", kind, text, got)
				}
			}
		}
	}
}

func TestOnlyAWordIsAName(t *testing.T) {
	for _, kind := range []int{-1, 0, api.Word, api.Number, api.Chars, api.String, api.Punct, api.Other, api.Header, api.Line, api.Made, 1 << 40} {
		for _, name := range []string{"", "define", "#", "\n", "a b"} {
			l := append(toks("c#c"), api.Tok{Kind: kind, Text: name}, api.Tok{Kind: api.Word, Text: "else"})
			want := ""
			if kind == api.Word {
				want = name
			}
			if got := lines.Rows(l); len(got) != 1 || !got[0].Directive || got[0].Name != want {
				t.Errorf("Rows with the kind %d, %q behind #: %+v", kind, name, got)
			}
		}
	}
}

func TestRowsOfManyLines(t *testing.T) {
	for text, want := range map[string]int{"on": 1, "#wn": 30000, "on#n": 60000, "n": 1, "c": 1, "#": 1} {
		if got := lines.Rows(toks(strings.Repeat(text, 30000))); len(got) != want || len(concatenated(got)) != 30000*len(text) {
			t.Errorf("Rows of %s, often: %d of them, with %d tokens", text, len(got), len(concatenated(got)))
		}
	}
}

// P3.1: Says

func TestSaysOfTexts(t *testing.T) {
	for s, want := range map[string][]api.Tok{
		"\n": nil,
		"a/**/+ b\nc\n": {{Kind: api.Word, Text: "a", At: 0, End: 1}, {Kind: api.Punct, Text: "+", At: 5, End: 6, Space: true},
			{Kind: api.Word, Text: "b", At: 7, End: 8, Space: true}, {Kind: api.Word, Text: "c", At: 9, End: 10, Space: true}},
		"#\n":      nil,
		"#if\n":    nil,
		"#1\n":     {{Kind: api.Number, Text: "1", At: 1, End: 2}},
		"#/**/1\n": {{Kind: api.Number, Text: "1", At: 5, End: 6, Space: true}},
		"#define F(a)\n": {{Kind: api.Word, Text: "F", At: 8, End: 9, Space: true}, {Kind: api.Punct, Text: "(", At: 9, End: 10},
			{Kind: api.Word, Text: "a", At: 10, End: 11}, {Kind: api.Punct, Text: ")", At: 11, End: 12}},
		"#define F/**/( \n": {{Kind: api.Word, Text: "F", At: 8, End: 9, Space: true}, {Kind: api.Punct, Text: "(", At: 13, End: 14, Space: true}},
	} {
		got := rows(t, s)
		if len(got) != 1 {
			t.Fatalf("Rows of %q: %+v", s, got)
		}
		if content := lines.Says(got[0]); !slices.Equal(content, want) {
			t.Errorf("Says of %q: %+v, not %+v", s, content, want)
		}
	}
}

func TestSaysOfAnyRow(t *testing.T) {
	n := 0
	check := func(text string) {
		for _, directive := range []bool{false, true} {
			// The tokens do not count for what a row is, nor for whether it has a name.
			for _, name := range []string{"", "include", "other", "\n"} {
				n++
				r := api.Row{Directive: directive, Name: name, Toks: toks(text)}
				if got, want := lines.Says(r), wantSays(r); !slices.Equal(got, want) {
					t.Fatalf("Says of %s, %v, %q: %+v, not %+v", text, directive, name, got, want)
				}
			}
		}
	}
	everyText([]string{"#", " #", "w", " w", "o", "c", " c", "n", " n"}, 4, check)
	if n < 50000 {
		t.Error("too few rows:", n)
	}
}

func TestSaysOfRowsThatNoCallMade(t *testing.T) {
	for _, c := range []struct {
		r    api.Row
		want string
	}{
		{api.Row{}, ""},
		{api.Row{Directive: true}, ""},
		{api.Row{Directive: true, Name: "if"}, ""},
		{api.Row{Name: "if"}, ""},
		{api.Row{Directive: true, Toks: toks("o")}, ""},
		{api.Row{Directive: true, Name: "if", Toks: toks("o")}, ""},
		{api.Row{Directive: true, Name: "if", Toks: toks("cnocn")}, ""},
		{api.Row{Directive: true, Toks: toks("#wo")}, "include 1"},
		{api.Row{Directive: true, Name: "if", Toks: toks("#wo")}, "1"},
		{api.Row{Directive: true, Name: "if", Toks: toks("onwn#")}, "#"},
		{api.Row{Name: "if", Toks: toks("#wo")}, "# include 1"},
		{api.Row{Name: "if", Toks: toks("c#nwcon")}, "# include 1"},
		// A Word without a text is no name.
		{lines.Rows([]api.Tok{{Kind: api.Punct, Text: "#"}, {Kind: api.Word}, {Kind: api.Word, Text: "a"}})[0], " a"},
	} {
		var got []string
		for _, x := range lines.Says(c.r) {
			got = append(got, x.Text)
		}
		if strings.Join(got, " ") != c.want {
			t.Errorf("Says(%+v): %q, not %q", c.r, got, c.want)
		}
	}
}

// P3.2

func TestDepths(t *testing.T) {
	for s, want := range map[string][]int{
		"":                          nil,
		"a\n":                       {0},
		"#if 1\nx\n#else\n#endif\n": {0, 1, 0, 0},
		"#if 1\n#endif\n":           {0, 0},
		"#ifdef A\na\n#endif\nb\n":  {0, 1, 0, 0},
		"#ifndef A\na\n#endif\n":    {0, 1, 0},
		"#if 1\n#elif 1\n#elif 1\na\n#else\nb\n#endif\n":                       {0, 0, 0, 1, 0, 1, 0},
		"#if 1\na\n#ifdef B\nb\n#elif C\n#else\nc\n#endif\nd\n#else\n#endif\n": {0, 1, 1, 2, 1, 1, 2, 1, 1, 0, 0},
		"#if 1\n#else\n#ifndef A\n#else\n#endif\n#endif\n":                     {0, 0, 1, 1, 1, 0},
		"#if 1\n#else\n#endif\n#if 1\n#else\n#endif\n":                         {0, 0, 0, 0, 0, 0},
		"#if 1\n#else\n#if 1\n#elif 1\n#else\n#endif\n#endif\n":                {0, 0, 1, 1, 1, 1, 0},
		"#define if\n#\n#1\n#error else\n#pragma endif\n#Else\n#endif_\n":      {0, 0, 0, 0, 0, 0, 0},
		"/*\n*/%:/**/if\n#define A\n%:endif\n":                                 {0, 1, 0},
		"#if\n#if\n#if\n#\n#endif\n#endif\n#endif\n":                           {0, 1, 2, 3, 2, 1, 0},
		"if\n# 1 if\nendif\n":                                                  {0, 0, 0},
	} {
		if got, e := lines.Depths(rows(t, s)); e != api.OK || !slices.Equal(got, want) {
			t.Errorf("Depths of %q: %v, %v, not %v", s, got, e, want)
		}
	}
}

func TestRowsThatDoNotNest(t *testing.T) {
	for _, s := range []string{
		// Where none is open.
		"#else\n", "#elif 1\n", "#endif\n", "a\n#else\n#endif\n", "#if 1\n#endif\n#endif\n", "#if 1\n#endif\n#else\n", "#if 1\n#endif\n#elif 1\n", "#endif\n#if 1\n",
		// Behind an #else of the same one.
		"#if\n#else\n#elif\n#endif\n", "#if 1\n#else\n#else\n#endif\n", "#ifdef A\n#elif 1\n#else\na\n#elif 1\n#endif\n", "#ifndef A\n#else\n#if 1\n#else\n#endif\n#else\n#endif\n",
		"#if 1\n#if 1\n#else\n#elif 1\n#endif\n#endif\n", "#if 1\n#else\n#if 1\n#endif\n#elif 1\n#endif\n",
		// Open at the end.
		"#ifdef\n", "#if 1\n", "#ifndef A\na\n", "#if 1\n#else\n", "#if 1\n#elif 1\n", "#if 1\n#if 1\n#endif\n", "#if 1\n#endif\n#if 1\n",
	} {
		if got, e := lines.Depths(rows(t, s)); e != api.ErrNest || len(got) != 0 {
			t.Errorf("Depths of %q: %v, %v", s, got, e)
		}
	}
}

func TestDepthsOfRowsThatAreNoDirectives(t *testing.T) {
	var l []api.Row
	for _, name := range []string{"if", "ifdef", "ifndef", "elif", "else", "else", "endif", "endif", "endif", "endif", "if"} {
		l = append(l, api.Row{Name: name, Toks: toks("#wn")})
	}
	if got, e := lines.Depths(l); e != api.OK || !slices.Equal(got, make([]int, len(l))) {
		t.Errorf("%v, %v", got, e)
	}
	within := append([]api.Row{{Directive: true, Name: "if"}}, append(l, api.Row{Directive: true, Name: "endif"})...)
	got, e := lines.Depths(within)
	if e != api.OK || len(got) != len(within) || got[0] != 0 || got[len(got)-1] != 0 {
		t.Fatalf("%v, %v", got, e)
	}
	for _, depth := range got[1 : len(got)-1] {
		if depth != 1 {
			t.Errorf("%v", got)
		}
	}
}

func TestDepthsHangOnNamesAlone(t *testing.T) {
	// What a row's tokens are does not count.
	l := []api.Row{{Directive: true, Name: "if", Toks: toks("on")}, {Directive: true, Toks: toks("#wn")}, {Directive: true, Name: "endif"}}
	if got, e := lines.Depths(l); e != api.OK || !slices.Equal(got, []int{0, 1, 0}) {
		t.Errorf("%v, %v", got, e)
	}
}

func TestDepthsOfEveryShortList(t *testing.T) {
	lists, nesting := 0, 0
	everyText(strings.Split("i l e x o", " "), 8, func(text string) {
		lists++
		got, e := depthsOf(text)
		if !nests(text) {
			if e != api.ErrNest || len(got) != 0 {
				t.Fatalf("Depths of %s: %v, %v", text, got, e)
			}
			return
		}
		nesting++
		if want := wantDepths(text); e != api.OK || !slices.Equal(got, want) {
			t.Fatalf("Depths of %s: %v, %v, not %v", text, got, e, want)
		}
	})
	if lists < 400000 || nesting < 1000 {
		t.Error("too few lists:", lists, nesting)
	}
}

func TestDepthsOfDeepRows(t *testing.T) {
	n := 1 << 16
	got, e := depthsOf(strings.Repeat("i", n) + strings.Repeat("ex", n))
	if e != api.OK || len(got) != 3*n || got[n-1] != n-1 || got[n] != n-1 || got[3*n-1] != 0 {
		t.Error(len(got), e)
	}
	if got, e := depthsOf(strings.Repeat("i", n+1) + strings.Repeat("ex", n)); e != api.ErrNest || len(got) != 0 {
		t.Error(len(got), e)
	}
}

// P3.3

// alikeBothWays is Alike, which must answer the same whichever list stands first.
func alikeBothWays(t *testing.T, a, b []api.Row, keep bool) bool {
	t.Helper()
	is := lines.Alike(a, b, keep)
	if lines.Alike(b, a, keep) != is {
		t.Errorf("Alike of %+v and %+v: %v, and the other way round %v", a, b, is, !is)
	}
	return is
}

// wantAlike holds what Alike answers of two texts, without keep and with it, against what is wanted.
func wantAlike(t *testing.T, a, b string, without, with bool) {
	t.Helper()
	r, s := rows(t, a), rows(t, b)
	if is := alikeBothWays(t, r, s, false); is != without {
		t.Errorf("Alike of %q and %q: %v", a, b, is)
	}
	if is := alikeBothWays(t, r, s, true); is != with {
		t.Errorf("Alike of %q and %q, with keep: %v", a, b, is)
	}
}

func TestAlikeTexts(t *testing.T) {
	for _, c := range [][2]string{
		{"", ""}, {"", "\n"}, {"", "/* a */ // b\n\n"}, {"a\n", "\n a\n"}, {"a b\n", "a\n/* c */b\n"},
		{"a\n#b\n", "a // c\n\n  #  /**/  b\n"}, {"#a\n#b\n", "#a\n\n#b\n"}, {"#a\n#b\n", "// c\n#a\n/* d */\n#b\n\n"},
		{"#define f(x) x\n", "# define   f(x)   x // a\n"}, {"#define f(x)\n", "#define/**/f(x)\n"}, {"#define X a/**/b\n", "#define X a b\n"}, {"#define X a /**/ b\n", "#define X a\tb\n"},
		{"#if a\n", "#if\\\n a\n"}, {"??=define X\n", "#define X\n"}, {"%:define X\n", "#define X\n"}, {"#12\n", "# 12\n"}, {"#\n", "# // a\n"},
		{"a\\\nb\n", "ab\n"}, {"#include <a>\n", "#include  <a>\n"}, {"#include/**/<a>\n", "#include<a>\n"},
	} {
		wantAlike(t, c[0], c[1], true, true)
	}
}

func TestTextsThatAreNotAlike(t *testing.T) {
	for _, c := range [][2]string{
		// As many rows.
		{"", "a\n"}, {"", "#\n"}, {"a\n", "a\n#\n"}, {"#a\n", "#a\n#a\n"}, {"#a\nb\n", "#a\nb\n#c\n"}, {"a b\n", "a\n#\nb\n"}, {"#\n", "\n"}, {"#a\n", "b\n#a\n"},
		// Both directives or neither.
		{"#a\n", "a\n"}, {"#\n", "a\n"}, {"#a\n", "## a\n"}, {"a\n#b\n", "#b\na\n"}, {"#\nb\n", "b\n#\n"},
		// Names.
		{"#a\n", "#b\n"}, {"#if a\n", "#ifdef a\n"}, {"#a b\n", "#b b\n"}, {"#\n", "#a\n"}, {"#1\n", "#a\n"}, {"#define\n", "#undef\n"},
		// Kinds and texts, and how many.
		{"a\n", "b\n"}, {"a\n", "1\n"}, {"a b\n", "a\n"}, {"a b\n", "a c\n"}, {"ab\n", "a b\n"}, {"#if a\n", "#if b\n"}, {"#if a b\n", "#if a\n"}, {"#if a\n", "#if\n"},
		{"<:\n", "[\n"}, {"'a'\n", "\"a\"\n"}, {"a/**/b\n", "ab\n"}, {"#include <a>\n", "#include < a>\n"}, {"#define X a\n", "#define X b\n"},
		// Space of a define.
		{"#define f(x)\n", "#define f (x)\n"}, {"#define X a+b\n", "#define X a +b\n"}, {"#define X a+b\n", "#define X a+ b\n"}, {"#define X a/**/+b\n", "#define X a+b\n"},
		{"#define f(a,b) a\n", "#define f(a, b) a\n"}, {"#define X+\n", "#define X +\n"}, {"%:define X a+b\n", "#define X a+ b\n"},
	} {
		wantAlike(t, c[0], c[1], false, false)
	}
}

func TestSpaceCountsWithKeep(t *testing.T) {
	for _, c := range [][2]string{
		{"a+b\n", "a +b\n"}, {"a+b\n", "a+ b\n"}, {"a+b\n", "a/**/+b\n"}, {"a+b\n", "a\n+b\n"}, {"#if a+b\n", "#if a +b\n"}, {"#if a+b\n", "#if a+ b\n"},
		{"#if a+b\n", "#if a/**/+b\n"}, {"#undef a(\n", "#undef a (\n"}, {"#1+\n", "#1 +\n"}, {"#a\n+b\n", "#a\n+ b\n"}, {"define f(x)\n", "define f (x)\n"},
	} {
		wantAlike(t, c[0], c[1], true, false)
	}
}

func TestSpaceOfFirstTokenNeverCounts(t *testing.T) {
	for _, r := range []api.Row{{}, {Name: "define"}, {Directive: true}, {Directive: true, Name: "if"}, {Directive: true, Name: "define"}} {
		r.Toks = toks("#wop")
		a, b := copied([]api.Row{r}), copied([]api.Row{r})
		first := len(r.Toks) - len(lines.Says(r))
		b[0].Toks[first].Space = true
		for _, keep := range []bool{false, true} {
			if !alikeBothWays(t, a, b, keep) {
				t.Errorf("%+v, keep %v", r, keep)
			}
		}
		// What stands ahead of the content does not count either.
		for i := range first {
			b[0].Toks[i] = api.Tok{Kind: api.String, Text: "x", Space: true}
			if !alikeBothWays(t, a, b, true) {
				t.Errorf("%+v and %+v", a, b)
			}
		}
	}
}

func TestSpaceOfLaterTokens(t *testing.T) {
	for _, r := range []api.Row{{}, {Name: "define"}, {Directive: true}, {Directive: true, Name: "if"}, {Directive: true, Name: "Define"}, {Directive: true, Name: "define"}} {
		r.Toks = toks("#wopq")
		first := len(r.Toks) - len(lines.Says(r))
		for i := first + 1; i < len(r.Toks); i++ {
			a, b := copied([]api.Row{r}), copied([]api.Row{r})
			b[0].Toks[i].Space = true
			body := r.Directive && r.Name == "define"
			if is := alikeBothWays(t, a, b, false); is == body {
				t.Errorf("%+v and %+v: %v", a, b, is)
			}
			if alikeBothWays(t, a, b, true) {
				t.Errorf("%+v and %+v, with keep", a, b)
			}
		}
	}
}

func TestNamesCountInRunsToo(t *testing.T) {
	for _, c := range []struct {
		a, b  api.Row
		alike bool
	}{
		{api.Row{Name: "a", Toks: toks("o")}, api.Row{Name: "a", Toks: toks("o")}, true},
		{api.Row{Name: "a", Toks: toks("o")}, api.Row{Name: "b", Toks: toks("o")}, false},
		{api.Row{Name: "a", Toks: toks("o")}, api.Row{Toks: toks("o")}, false},
		{api.Row{Name: "a", Toks: toks("cn")}, api.Row{Name: "b"}, true},
		{api.Row{Directive: true, Name: "a", Toks: toks("#w")}, api.Row{Directive: true, Name: "b", Toks: toks("#w")}, false},
		{api.Row{Directive: true, Name: "a"}, api.Row{Directive: true}, false},
		{api.Row{Directive: true, Name: "a"}, api.Row{Name: "a", Toks: toks("o")}, false},
		{api.Row{Directive: true, Toks: toks("oo")}, api.Row{Toks: toks("o")}, false},
	} {
		for _, keep := range []bool{false, true} {
			if is := alikeBothWays(t, []api.Row{c.a}, []api.Row{c.b}, keep); is != c.alike {
				t.Errorf("Alike of %+v and %+v, %v: %v", c.a, c.b, keep, is)
			}
		}
	}
}

func TestRunsWithoutContentDoNotCount(t *testing.T) {
	silent := []api.Row{{}, {Name: "if"}, {Toks: toks("n")}, {Toks: toks(" cn c nn")}}
	said := []api.Row{{Toks: toks("on")}, {Directive: true, Toks: toks("#n")}, {Directive: true, Name: "include", Toks: toks("#wn")}, {Toks: toks("o")}, {Toks: toks("ccw")}}
	for i := range len(said) + 1 {
		for k := range len(said) + 1 {
			a, b := slices.Insert(slices.Clone(said), i, silent...), slices.Insert(slices.Clone(said), k, silent[1:]...)
			if !alikeBothWays(t, a, b, true) || !alikeBothWays(t, a, said, true) {
				t.Error(i, k)
			}
			if k < len(said) && (alikeBothWays(t, a, slices.Delete(slices.Clone(said), k, k+1), false) || alikeBothWays(t, a, said[:k], false) || alikeBothWays(t, a, b[:k], false)) {
				t.Error("one less,", i, k)
			}
		}
	}
	if !alikeBothWays(t, silent, nil, true) || !alikeBothWays(t, silent, silent[2:], true) || !alikeBothWays(t, nil, []api.Row{}, false) {
		t.Error("of nothing")
	}
}

// manyRows are rows that part from each other in one thing, or in several.
func manyRows() []api.Row {
	var l []api.Row
	for _, text := range []string{"", "c", "n", "o", " o", "oo", "o o", " oo", "oco", "ow", "o w", "wo", "#w", "#wo", "# w o", "#woo", "#wo o", "#wo co", "c#wo", "of", "o#", "onq"} {
		for _, directive := range []bool{false, true} {
			for _, name := range []string{"", "define", "if"} {
				l = append(l, api.Row{Directive: directive, Name: name, Toks: toks(text)})
			}
		}
	}
	return l
}

func TestAlikeOfManyRows(t *testing.T) {
	n := 0
	for _, keep := range []bool{false, true} {
		for _, r := range manyRows() {
			for _, s := range manyRows() {
				a, b := []api.Row{r}, []api.Row{s}
				want := meaning(a, keep) == meaning(b, keep)
				if is := lines.Alike(a, b, keep); is != want {
					t.Fatalf("Alike of %+v and %+v, %v: %v", a, b, keep, is)
				}
				if want {
					n++
				}
			}
		}
	}
	if n < 1000 {
		t.Error("too few rows are alike:", n)
	}
}

func TestAlikeOfManyLists(t *testing.T) {
	few := map[string]api.Row{
		"s": {Toks: toks("cn")},
		"a": {Toks: toks("oo")},
		"b": {Toks: toks("o o")},
		"d": {Directive: true},
		"e": {Directive: true, Name: "define", Toks: toks("#woo")},
		"f": {Directive: true, Name: "define", Toks: toks("#wo o")},
	}
	var lists [][]api.Row
	everyText(strings.Split("s a b d e f", " "), 3, func(text string) {
		var l []api.Row
		for _, letter := range text {
			l = append(l, few[string(letter)])
		}
		lists = append(lists, l)
	})
	for _, keep := range []bool{false, true} {
		meanings := make([]string, len(lists))
		for i, l := range lists {
			meanings[i] = meaning(l, keep)
		}
		for i, a := range lists {
			for k, b := range lists {
				if is := lines.Alike(a, b, keep); is != (meanings[i] == meanings[k]) {
					t.Fatalf("Alike of %+v and %+v, %v: %v", a, b, keep, is)
				}
			}
		}
	}
}

func TestPlacesDoNotCount(t *testing.T) {
	a := rows(t, "#define X a b\nc d\n")
	b := copied(a)
	for i := range b {
		for k := range b[i].Toks {
			b[i].Toks[k].At, b[i].Toks[k].End = -k, 1<<40
		}
	}
	if !alikeBothWays(t, a, b, true) {
		t.Error("places count")
	}
}

func TestAlikeOfManyLines(t *testing.T) {
	a := lines.Rows(toks(strings.Repeat("on#wcn", 10000)))
	b := lines.Rows(toks(strings.Repeat("ncnocn#wn", 10000)))
	if !alikeBothWays(t, a, b, false) || alikeBothWays(t, a, b[2:], false) || alikeBothWays(t, a, b[:len(b)-1], false) {
		t.Error("many lines")
	}
}

// P3.4

func TestArgumentsAreOnlyRead(t *testing.T) {
	whole := toks("cwcn n#cwconnonn#won")
	before := slices.Clone(whole)
	l := whole[:len(whole)-4]
	made := lines.Rows(l)
	for i := range made {
		_ = append(made[i].Toks, api.Tok{Text: "appended"})
		for k := range made[i].Toks {
			made[i].Toks[k] = api.Tok{Text: "written"}
		}
	}
	_ = append(made, api.Row{})
	if !slices.Equal(whole, before) {
		t.Error("Rows changes its argument, or hands it out:", whole)
	}

	for _, r := range []api.Row{{Toks: l}, {Directive: true, Toks: l}, {Directive: true, Name: "a", Toks: l}} {
		content := lines.Says(r)
		_ = append(content, api.Tok{Text: "appended"})
		for i := range content {
			content[i] = api.Tok{Text: "written"}
		}
		if !slices.Equal(whole, before) {
			t.Error("Says changes its argument, or hands it out:", whole)
		}
	}
}

func TestRowsAreOnlyRead(t *testing.T) {
	const s = "a\n#if 1 /**/ 2\n\n#define X a b\n/**/#endif\nc\n"
	a, b := rows(t, s), rows(t, s)
	wholeA, wholeB := copied(a), copied(b)
	for _, keep := range []bool{false, true} {
		lines.Alike(a[:3], b, keep)
		lines.Alike(a, b[:3], keep)
	}
	depths, _ := lines.Depths(a)
	lines.Depths(b[:3])
	for i := range depths {
		depths[i] = -1
	}
	if !equalRows(a, wholeA) || !equalRows(b, wholeB) {
		t.Error("rows are changed:", a, b)
	}
}

func TestEachRowHasAListOfItsOwn(t *testing.T) {
	for _, text := range []string{"on#wn", "#wn#wn#wn", "onon#nnnon#wonon", "#won#", "cn#ncnon#on"} {
		n := len(lines.Rows(toks(text)))
		for i := range n {
			got, want := lines.Rows(toks(text)), wantRows(text)
			for range 3 {
				got[i].Toks = append(got[i].Toks, api.Tok{Text: "appended"})
			}
			grown := lines.Rows(toks(text))
			_ = append(grown[i].Toks, api.Tok{Text: "appended"}, api.Tok{Text: "appended"})
			for k := range grown[i].Toks {
				grown[i].Toks[k] = api.Tok{Text: "written"}
			}
			for k := range want {
				if k != i && (!slices.Equal(got[k].Toks, want[k].Toks) || !slices.Equal(grown[k].Toks, want[k].Toks)) {
					t.Errorf("Rows of %s: what is done to row %d changes row %d", text, i, k)
				}
			}
		}
	}
}

func TestResultsAreNew(t *testing.T) {
	l := toks("wn#won")
	made, again := lines.Rows(l), lines.Rows(l)
	want := copied(again)
	content, contentAgain := lines.Says(again[1]), lines.Says(again[1])
	wantContent := slices.Clone(contentAgain)
	for i := range made {
		for k := range made[i].Toks {
			made[i].Toks[k] = api.Tok{}
		}
		made[i] = api.Row{}
	}
	for i := range content {
		content[i] = api.Tok{}
	}
	if !equalRows(again, want) || !slices.Equal(contentAgain, wantContent) {
		t.Error("two results share memory")
	}
	if !equalRows(lines.Rows(l), want) || !slices.Equal(lines.Says(again[1]), wantContent) {
		t.Error("a result is kept")
	}
}

func TestDepthsAreNew(t *testing.T) {
	l := rows(t, "#if 1\na\n#endif\n")
	depths, _ := lines.Depths(l)
	again, _ := lines.Depths(l)
	for i := range depths {
		depths[i] = -1
	}
	if third, _ := lines.Depths(l); !slices.Equal(again, []int{0, 1, 0}) || !slices.Equal(third, []int{0, 1, 0}) {
		t.Error("two results share memory, or a result is kept")
	}
}

func TestTextsAreNew(t *testing.T) {
	l := scanned(t, "plain text\n#define other text\n")
	made := lines.Rows(l)
	for _, r := range made {
		for _, x := range slices.Concat(r.Toks, lines.Says(r), []api.Tok{{Text: r.Name}}) {
			for _, y := range l {
				if shares(x.Text, y.Text) {
					t.Errorf("%q shares memory with the list that Rows was given", x.Text)
				}
			}
		}
	}
	for _, x := range lines.Says(made[1]) {
		for _, y := range made[1].Toks {
			if shares(x.Text, y.Text) {
				t.Errorf("%q shares memory with the row that Says was given", x.Text)
			}
		}
	}
}

// shares says whether two texts have bytes in the same place.
func shares(a, b string) bool {
	from, to := uintptr(unsafe.Pointer(unsafe.StringData(a))), uintptr(unsafe.Pointer(unsafe.StringData(b)))
	return from < to+uintptr(len(b)) && to < from+uintptr(len(a))
}

// P3.5

func TestConcatenationOfAnyList(t *testing.T) {
	for _, kind := range []int{-1, 0, api.Word, api.Punct, api.Comment, api.Newline, api.Made, 1 << 40} {
		everyText([]string{"o", "n", "#", "w", " c"}, 5, func(text string) {
			l := toks(text)
			// In place of each Number there is a token of any kind.
			for i := range l {
				if l[i].Kind == api.Number {
					l[i] = api.Tok{Kind: kind, Text: strconv.Itoa(i) + "#", At: -i, End: kind, Space: i%2 == 0}
				}
			}
			if got := lines.Rows(l); !slices.Equal(concatenated(got), l) {
				t.Fatalf("Rows of %+v: %+v", l, got)
			}
		})
	}
}

// blanked is a text in which a blank stands for each comment, and whether a comment with a byte 10 is in a directive with the name include.
func blanked(s string, l []api.Tok) (string, bool) {
	var text strings.Builder
	end := 0
	for _, x := range l {
		if x.Kind == api.Comment {
			text.WriteString(s[end:x.At] + " ")
			end = x.End
		}
	}
	within := slices.ContainsFunc(lines.Rows(l), func(r api.Row) bool {
		return r.Directive && r.Name == "include" && slices.ContainsFunc(r.Toks, func(x api.Tok) bool {
			return x.Kind == api.Comment && strings.Contains(x.Text, "\n")
		})
	})
	return text.String() + s[end:], within
}

func TestBlanksForComments(t *testing.T) {
	met := 0
	check := func(s string) {
		l, e := scan.Scan(s + "\n")
		if e != api.OK {
			return
		}
		without, within := blanked(s+"\n", l)
		if within || without == s+"\n" {
			return
		}
		met++
		a, b := lines.Rows(l), rows(t, without)
		if !lines.Alike(a, b, false) || !lines.Alike(a, b, true) {
			t.Fatalf("%q and %q are not alike", s, without)
		}
	}
	everyText([]string{"#", "include", "<", ">", "\"", "/**/", "/*\n*/", "// ", " ", "\n", "a"}, 5, check)
	everyText([]string{"#", "define", "a", "(", "/**/", "/*\n*/", "//", "\\\n", " ", "\n", "??/"}, 5, check)
	if met < 50000 {
		t.Error("too few texts with comments:", met)
	}
}

func TestBlanksForCommentsInHeaders(t *testing.T) {
	// The byte 10 ends the search for the header's end; a blank does not.
	wantAlike(t, "#include <a/*\n*/>\n", "#include <a >\n", false, false)
	wantAlike(t, "#include/*\n*/<a>\n", "#include <a>\n", true, true)
}

func TestBetweenIfAndEndif(t *testing.T) {
	everyText(strings.Split("i l e x o", " "), 6, func(text string) {
		inside, e := depthsOf(text)
		if e != api.OK {
			return
		}
		got, e := depthsOf("i" + text + "x")
		if e != api.OK || len(got) != len(text)+2 {
			t.Fatalf("Depths of i%sx: %v, %v", text, got, e)
		}
		for i, depth := range inside {
			if got[i+1] != depth+1 {
				t.Fatalf("Depths of i%sx: %v, and within %v", text, got, inside)
			}
		}
	})
}
