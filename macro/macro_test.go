package macro_test

import (
	"slices"
	"strconv"
	"strings"
	"testing"
	"unsafe"

	"reglet/api"
	"reglet/lines"
	"reglet/macro"
	"reglet/phys"
	"reglet/scan"
)

// content is the content of a text that is a single directive with the name define.
func content(t *testing.T, s string) []api.Tok {
	t.Helper()
	l, e := scan.Scan(s)
	if e != api.OK {
		t.Fatalf("Scan(%q): %v", s, e)
	}
	rows := lines.Rows(l)
	if len(rows) != 1 || rows[0].Name != "define" {
		t.Fatalf("Rows of %q: %+v", s, rows)
	}
	return lines.Says(rows[0])
}

// definition is the content of #define with a text behind it.
func definition(t *testing.T, s string) []api.Tok {
	t.Helper()
	return content(t, "#define "+s+"\n")
}

// defined is the macro that a text behind #define must define.
func defined(t *testing.T, s string) api.Macro {
	t.Helper()
	m, e := macro.Define(definition(t, s))
	if e != api.OK {
		t.Fatalf("#define %s: %v", s, e)
	}
	return m
}

// written is a macro as the test tables write it: ahead of a body its name, and of a function-like one what is in the brackets; then the texts of the body, with a . ahead of those with Space.
func written(m api.Macro) string {
	head := []string{m.Name}
	if m.Func {
		head[0] += "()"
	}
	head = append(head, m.Params...)
	if m.Variadic {
		head = append(head, "...")
	}
	s := strings.Join(head, " ") + " :"
	for _, t := range m.Body {
		s += map[bool]string{false: " ", true: " ."}[t.Space] + t.Text
	}
	return s
}

// isZero says whether a macro is the zero value.
func isZero(m api.Macro) bool {
	return m.Name == "" && !m.Func && len(m.Params) == 0 && !m.Variadic && len(m.Body) == 0
}

// everyKind are kinds of tokens, and numbers that are none.
func everyKind() []int {
	return []int{-1 << 40, -1, 0, api.Word, api.Number, api.Chars, api.String, api.Punct, api.Other, api.Header, api.Comment, api.Newline, api.Line, api.Made, 12, 1 << 40}
}

// P5.1: Of

func TestOfNothing(t *testing.T) {
	for _, l := range [][]api.Tok{nil, {}} {
		if made := macro.Of(l); len(made) != 0 {
			t.Error(made)
		}
	}
}

func TestOf(t *testing.T) {
	var all []api.Tok
	for _, kind := range everyKind() {
		for _, text := range []string{"", "a", "##", "a b\n/**/"} {
			for _, space := range []bool{false, true} {
				all = append(all, api.Tok{Kind: kind, Text: text, At: 7, End: -kind, Space: space})
			}
		}
	}
	for n := range len(all) {
		l := all[n/2 : n]
		made := macro.Of(l)
		if len(made) != len(l) {
			t.Fatalf("Of %d tokens: %d", len(l), len(made))
		}
		for i, p := range made {
			if p.Kind != l[i].Kind || p.Text != l[i].Text || p.Space != l[i].Space || len(p.Parts) != 0 {
				t.Fatalf("Of: %+v, of %+v", p, l[i])
			}
		}
	}
}

// P5.1: Define

func TestDefine(t *testing.T) {
	for s, want := range map[string]string{
		// The chapter's examples.
		"X":                   "X :",
		"F(a, b) a ## b":      "F() a b : a .## .b",
		"F (a) a":             "F : ( a ) .a",
		"V(...) #__VA_ARGS__": "V() ... : # __VA_ARGS__",
		"V(a, ...) a":         "V() a ... : a",

		// A body behind the name.
		"X 1":           "X : 1",
		"X\t1":          "X : 1",
		"X/**/1":        "X : 1",
		"X/**/+1 + 2":   "X : + 1 .+ .2",
		"X ()":          "X : ( )",
		"X/**/(a) b":    "X : ( a ) .b",
		"X (a":          "X : ( a",
		"X )":           "X : )",
		"X X":           "X : X",
		"X defined":     "X : defined",
		"X __LINE__":    "X : __LINE__",
		"X _Pragma":     "X : _Pragma",
		"X \"a\" 'b' @": "X : \"a\" .'b' .@",
		"X #":           "X : #",
		"X # a":         "X : # .a",
		"X %: %:":       "X : %: .%:",
		"X a ## b":      "X : a .## .b",
		"X a ## ## b":   "X : a .## .## .b",
		"X a%:%:b":      "X : a %:%: b",
		"X # ## #":      "X : # .## .#",
		"X ,...":        "X : , ...",
		"X // a":        "X :",
		"X /* a */ b":   "X : b",

		// Parameters.
		"F()":                  "F() :",
		"F( )":                 "F() :",
		"F()x":                 "F() : x",
		"F()(x)":               "F() : ( x )",
		"F() (x)":              "F() : ( x )",
		"F(a)":                 "F() a :",
		"F( a )a":              "F() a : a",
		"F(/**/a/**/,/**/b)":   "F() a b :",
		"F(a,b,c,d) d c":       "F() a b c d : d .c",
		"F(F) F":               "F() F : F",
		"F(defined, _Pragma)":  "F() defined _Pragma :",
		"F(__LINE__) __LINE__": "F() __LINE__ : __LINE__",
		"F(int, Int, INT)":     "F() int Int INT :",
		"V(...)":               "V() ... :",
		"V( ... )x":            "V() ... : x",
		"V(a,...)":             "V() a ... :",
		"V(a , b , ... ) a":    "V() a b ... : a",

		// What a body says of arguments.
		"F(a) #a":                    "F() a : # a",
		"F(a) # a":                   "F() a : # .a",
		"F(a) %:a %:/**/a":           "F() a : %: a .%: .a",
		"F(a,b) #a #b a#b":           "F() a b : # a .# b .a # b",
		"F(a) a ## #a":               "F() a : a .## .# a",
		"F(a) #a ## a":               "F() a : # a .## .a",
		"F(a) a ## ## a":             "F() a : a .## .## .a",
		"F(a) a %:%: a":              "F() a : a .%:%: .a",
		"F(a) ,##a ##,":              "F() a : , ## a .## ,",
		"V(...) __VA_ARGS__":         "V() ... : __VA_ARGS__",
		"V(a, ...) #a #__VA_ARGS__":  "V() a ... : # a .# __VA_ARGS__",
		"V(...) %: __VA_ARGS__ ## 1": "V() ... : %: .__VA_ARGS__ .## .1",
		"F(a) \"#b\" '#' /* #b */":   "F() a : \"#b\" .'#'",
		"F() a ## b":                 "F() : a .## .b",

		"X a??=b":  "X : a # b",
		"X a\\\nb": "X : ab",
	} {
		m, e := macro.Define(definition(t, s))
		if e != api.OK || written(m) != want {
			t.Errorf("#define %s: %s, %v, not %s", s, written(m), e, want)
		}
	}
}

func TestDefineHasAllFields(t *testing.T) {
	for s, want := range map[string]api.Macro{
		"X": {Name: "X"},
		"X  a+\t2": {Name: "X", Body: []api.PTok{
			{Kind: api.Word, Text: "a"}, {Kind: api.Punct, Text: "+"}, {Kind: api.Number, Text: "2", Space: true}}},
		"F()": {Name: "F", Func: true},
		"F(p, q)p ## q": {Name: "F", Func: true, Params: []string{"p", "q"}, Body: []api.PTok{
			{Kind: api.Word, Text: "p"}, {Kind: api.Punct, Text: "##", Space: true}, {Kind: api.Word, Text: "q", Space: true}}},
		"V(...) 'a'\"b\"@": {Name: "V", Func: true, Variadic: true, Body: []api.PTok{
			{Kind: api.Chars, Text: "'a'"}, {Kind: api.String, Text: "\"b\""}, {Kind: api.Other, Text: "@"}}},
		"V(a, ...)": {Name: "V", Func: true, Params: []string{"a"}, Variadic: true},
	} {
		if m := defined(t, s); shown(m) != shown(want) {
			t.Errorf("#define %s: %+v, not %+v", s, m, want)
		}
	}
}

func TestNoDefinition(t *testing.T) {
	for _, s := range []string{
		// The chapter's examples.
		"X+1", "F(a, a)", "F(a", "X ## 1", "F(a) #b", "F(a) __VA_ARGS__", "defined", "",

		// Names.
		"__VA_ARGS__", "__LINE__", "_Pragma", "defined 1", "__LINE__(a) a", "1", "1 a", "\"a\"", "'a'", "+", "@", "(a)", "(", "# a", "...",

		// What is directly behind a name.
		"X\"a\"", "X??=", "X+", "X)", "X,", "X...", "X@", "X##a", "X<a>", "X{}", "X[a]", "X.1",

		// Parameters.
		"F(", "F(,", "F(a,", "F(a, b", "F(...", "F(a, ...", "F(a b)", "F(a b", "F(a, b c)", "F(,)", "F(,a)", "F(a,)", "F(a,,b)", "F(a, b,)", "F(,,)",
		"F(...,)", "F(,...)", "F(a ...)", "F(a...)", "F(..., a)", "F(..., ...)", "F(... ...)", "F(a, ..., b)", "F(a, ... b)", "F(a, ...,)", "F(..)", "F(.)",
		"F(a, b, a)", "F(a, a, b)", "F(b, a, a)", "F(a, a, ...)", "F(__VA_ARGS__)", "F(a, __VA_ARGS__)", "F(__VA_ARGS__, ...)", "F(..., __VA_ARGS__)",
		"F(1)", "F(a, 1)", "F(+)", "F(\"a\")", "F((a))", "F(#a)", "F(a;b)", "F(a}", "F(a]", "F((", "F(a(", "F(...(",

		// Bodies.
		"X ##", "X %:%:", "X a ##", "X a %:%:", "X ## a", "X %:%: a", "X ## a ##", "X ## ##", "F() ##", "F()##a", "F(a) a ##", "F(a) ## a", "F(a)%:%:a", "F(a) a%:%:", "V(...) ## __VA_ARGS__", "V(...) #__VA_ARGS__ ##",
		"F() #", "F() #a", "F(a) #", "F(a) a #", "F(a) #1", "F(a) #\"a\"", "F(a) # #a", "F(a) #(a)", "F(a) %:", "F(a) %:b", "F(a) # ## a", "F(a) #F", "F(a) #a #b", "F(a, b) #a #b #c", "F(a) #ab", "V(...) #...", "V(a, ...) #V",
		"X __VA_ARGS__", "X (__VA_ARGS__)", "X a __VA_ARGS__ b", "F() __VA_ARGS__", "F(a) #__VA_ARGS__", "F(a) a ## __VA_ARGS__", "F(a) a __VA_ARGS__ a", "X #__VA_ARGS__",
	} {
		if m, e := macro.Define(definition(t, s)); e != api.ErrDefine || !isZero(m) {
			t.Errorf("#define %s: %+v, %v", s, m, e)
		}
	}
	if m, e := macro.Define([]api.Tok{}); e != api.ErrDefine || !isZero(m) {
		t.Errorf("of nothing: %+v, %v", m, e)
	}
}

// defines holds what Define answers of a text of letters against what is wanted, and says whether it is a valid definition.
func defines(t *testing.T, text string) bool {
	t.Helper()
	text = strings.TrimRight(strings.ReplaceAll(text, "  ", " "), " ")
	m, e := macro.Define(toks(text))
	want, valid := wantDefine(text)
	if valid != (e == api.OK) || !valid && (e != api.ErrDefine || !isZero(m)) || valid && shown(m) != shown(want) {
		t.Fatalf("Define of %s: %+v, %v, not %+v, %v", text, m, e, want, valid)
	}
	return valid
}

func TestDefineOfEveryShortList(t *testing.T) {
	for _, c := range []struct {
		head, parts string
		n, fewest   int
	}{
		// Heads, then parameters, then bodies.
		{"", "x| a|v|d|l|g|(| (|)|,|.|1", 4, 500},
		{"", "x|A|1|[|]|(|)| :|;|n| k|w", 4, 500},
		{"x(", "a|b|,|)|.|v", 6, 1000},
		{"x(", "a| b|,| ,|)| )|.", 5, 1000},
		{"a(", "a|d|l|g|w|,|.|)", 5, 1000},
		{"x(", "a|A|,|;|.|:|)|]|v|V", 5, 1000},
		{"x(a,b)", "a| bb|b|x|#| #|%|p| q|v", 5, 3000},
		{"x(a,.)", "a| a|b|#|%| p|q|v| v", 5, 4000},
		{"x(.)", "a|#| #|%|p|q|v| v|V|S", 5, 3000},
		{"x()", "a| a|#|%|p|q|v|V|1", 5, 500},
		{"x ", "a| a|#| %|p|q|v|V|1", 5, 9000},
		{"x", " (| )| a| ,|a| #|p|(", 5, 2000},
		{"x(w)", "#|S|w|p|P|k|n| (|)| ,", 5, 9000},
		{" x( a , b , . )", "a|b|#|v|p", 6, 1000},
	} {
		valid := 0
		everyText(strings.Split(c.parts, "|"), c.n, func(text string) {
			if defines(t, c.head+text) {
				valid++
			}
		})
		if valid < c.fewest {
			t.Errorf("too few definitions that begin with %q and go on with %s: %d", c.head, c.parts, valid)
		}
	}
}

func TestOnlyKindsThatAreNamedCount(t *testing.T) {
	for _, kind := range everyKind() {
		for _, c := range []struct {
			text string
			at   int // of the token whose kind is changed
			want int // the kind with which the text is a definition
		}{
			{"x", 0, api.Word}, {"x a", 0, api.Word}, {"x(a)", 0, api.Word}, {"x(a)", 1, api.Punct}, {"x(a)", 2, api.Word}, {"x(a)", 3, api.Punct},
			{"x()", 1, api.Punct}, {"x()", 2, api.Punct}, {"x(a,b)", 3, api.Punct}, {"x(a,.)", 3, api.Punct}, {"x(a,.)", 5, api.Punct},
			{"x(a)#a", 5, api.Word}, {"x(.)#v", 5, api.Word},
		} {
			l := toks(c.text)
			l[c.at].Kind = kind
			if m, e := macro.Define(l); (e == api.OK) != (kind == c.want) || e != api.OK && (e != api.ErrDefine || !isZero(m)) {
				t.Errorf("Define of %s with the kind %d at %d: %+v, %v", c.text, kind, c.at, m, e)
			}
		}
		// As a Word, ... is a parameter like another.
		for text, at := range map[string]int{"x(.)": 2, "x(a,.)": 4} {
			l := toks(text)
			l[at].Kind = kind
			m, e := macro.Define(l)
			if may := kind == api.Punct || kind == api.Word; (e == api.OK) != may || m.Variadic != (kind == api.Punct) {
				t.Errorf("Define of %s with the kind %d at %d: %+v, %v", text, kind, at, m, e)
			}
		}
		// Here it is one kind with which the text is none.
		for _, c := range []struct {
			text string
			at   int
			not  int
		}{
			{"x p", 1, api.Punct}, {"x q", 1, api.Punct}, {"x()q", 3, api.Punct}, {"x ap", 2, api.Punct}, {"x(a)aq", 5, api.Punct},
			{"x()#", 3, api.Punct}, {"x(a)%b", 4, api.Punct}, {"x v", 1, api.Word}, {"x(a)v", 4, api.Word}, {"x()av", 4, api.Word},
		} {
			l := toks(c.text)
			l[c.at].Kind = kind
			if m, e := macro.Define(l); (e == api.OK) != (kind != c.not) || e != api.OK && (e != api.ErrDefine || !isZero(m)) {
				t.Errorf("Define of %s with the kind %d at %d: %+v, %v", c.text, kind, c.at, m, e)
			}
		}
		// And in a body each one is kept.
		l := append(toks("x(a)"), api.Tok{Kind: kind, Text: "\n/*", Space: true}, api.Tok{Kind: kind, Text: "", At: -1, Space: true})
		want := []api.PTok{{Kind: kind, Text: "\n/*"}, {Kind: kind, Text: "", Space: true}}
		if m, e := macro.Define(l); e != api.OK || shown(api.Macro{Body: m.Body}) != shown(api.Macro{Body: want}) {
			t.Errorf("Define with the kind %d in the body: %+v, %v", kind, m, e)
		}
	}
}

func TestTextsOfWordsAreNotExamined(t *testing.T) {
	for _, text := range []string{"", "a b", "1", "(", "\n", "##", "...", " defined", "DEFINED", "__VA_ARGS", "_Pragma_"} {
		word := api.Tok{Kind: api.Word, Text: text, Space: true}
		for _, pattern := range []string{"W", "W a", "W (a)#", "W(a)#a", "x(W)#W", "x(a,W,.)#W", "x W", "x a W"} {
			var l []api.Tok
			for i, piece := range strings.Split(pattern, "W") {
				if i > 0 {
					l = append(l, word)
				}
				l = append(l, toks(piece)...)
			}
			if _, e := macro.Define(l); e != api.OK {
				t.Errorf("Define of %s with %q for W: %v", pattern, text, e)
			}
		}
	}
}

func TestDefineOfManyTokens(t *testing.T) {
	n := 1 << 18
	var params strings.Builder
	for i := range n {
		params.WriteString(",p" + strconv.Itoa(i))
	}
	word := func(i int) api.Tok { return api.Tok{Kind: api.Word, Text: "p" + strconv.Itoa(i)} }
	l := toks("x(")
	for i := range n {
		l = append(l, word(i), toks(",")[0])
	}
	several := append(slices.Clone(l[:len(l)-1]), toks(")")...)
	for i := range n {
		several = append(several, toks("#")[0], word(n-i-1))
	}
	m, e := macro.Define(several)
	if e != api.OK || len(m.Params) != n || ","+strings.Join(m.Params, ",") != params.String() || len(m.Body) != 2*n {
		t.Errorf("%d parameters, %d tokens of a body, %v", len(m.Params), len(m.Body), e)
	}
	twice := append(slices.Clone(l), word(n/2), toks(")")[0])
	if m, e := macro.Define(twice); e != api.ErrDefine || !isZero(m) {
		t.Error("one of many parameters twice:", e)
	}
	if m, e := macro.Define(append(several, toks("#")[0], word(n))); e != api.ErrDefine || !isZero(m) {
		t.Error("# before what is no parameter, behind many that are:", e)
	}
}

// P5.2

// manyMacros are macros that part from each other in one thing, or in several.
func manyMacros() []api.Macro {
	bodies := [][]api.PTok{nil, {}, {{}}, {{}, {}}}
	for _, t := range []api.PTok{
		{Kind: api.Word}, {Text: "a"}, {Space: true}, {Parts: []string{}}, {Parts: []string{""}}, {Parts: []string{"a"}}, {Parts: []string{"a", ""}},
		{Kind: api.Word, Text: "a"}, {Kind: api.Number, Text: "a"}, {Kind: api.Word, Text: "b"}, {Kind: api.Word, Text: "a", Space: true},
		{Kind: api.Made, Text: "a", Parts: []string{"b", "c"}}, {Kind: api.Made, Text: "a", Parts: []string{"c", "b"}}, {Kind: api.Made, Text: "a", Parts: []string{"bc"}},
	} {
		bodies = append(bodies, []api.PTok{t}, []api.PTok{{Kind: api.Word, Text: "a"}, t})
	}
	bodies = append(bodies, []api.PTok{{Text: "a"}, {Kind: api.Word, Text: "a"}})
	var l []api.Macro
	for _, name := range []string{"", "a"} {
		for _, params := range [][]string{nil, {}, {""}, {"a"}, {"b"}, {"a", "b"}, {"b", "a"}, {"a", ""}} {
			for i, body := range bodies {
				l = append(l, api.Macro{Name: name, Func: i%2 == 0, Params: params, Body: body})
				l = append(l, api.Macro{Name: name, Func: true, Params: params, Variadic: i%3 == 0, Body: body})
			}
		}
	}
	return l
}

func TestSame(t *testing.T) {
	l, same := manyMacros(), 0
	looks := make([]string, len(l))
	for i, m := range l {
		looks[i] = shown(m)
	}
	for i, a := range l {
		for k, b := range l {
			is := macro.Same(a, b)
			if is != (looks[i] == looks[k]) {
				t.Fatalf("Same(%+v, %+v): %v", a, b, is)
			}
			if is && i != k {
				same++
			}
		}
	}
	if len(l) < 900 || same < 500 {
		t.Error("too few macros, or too few that are the same:", len(l), same)
	}
}

func TestSameOfOneDifference(t *testing.T) {
	base := func() api.Macro {
		return api.Macro{Name: "n", Func: true, Params: []string{"a", "b"}, Variadic: true, Body: []api.PTok{
			{Kind: api.Word, Text: "a"}, {Kind: api.Punct, Text: "##", Space: true}, {Kind: api.Made, Text: "x", Space: true, Parts: []string{"p", "q"}}}}
	}
	if !macro.Same(base(), base()) || !macro.Same(api.Macro{}, api.Macro{}) {
		t.Error("equal macros are not the same")
	}
	for i, change := range []func(m *api.Macro){
		func(m *api.Macro) { m.Name = "N" },
		func(m *api.Macro) { m.Name = "" },
		func(m *api.Macro) { m.Func = false },
		func(m *api.Macro) { m.Variadic = false },
		func(m *api.Macro) { m.Params = nil },
		func(m *api.Macro) { m.Params[0] = "b" },
		func(m *api.Macro) { m.Params[1] = "a" },
		func(m *api.Macro) { m.Params[0], m.Params[1] = "b", "a" },
		func(m *api.Macro) { m.Params = m.Params[:1] },
		func(m *api.Macro) { m.Params = append(m.Params, "c") },
		func(m *api.Macro) { m.Body = nil },
		func(m *api.Macro) { m.Body = m.Body[:2] },
		func(m *api.Macro) { m.Body = append(m.Body, api.PTok{}) },
		func(m *api.Macro) { m.Body[0].Kind = api.Number },
		func(m *api.Macro) { m.Body[0].Text = "b" },
		func(m *api.Macro) { m.Body[0].Space = true },
		func(m *api.Macro) { m.Body[1].Space = false },
		func(m *api.Macro) { m.Body[2].Kind = api.Line },
		func(m *api.Macro) { m.Body[2].Text = "" },
		func(m *api.Macro) { m.Body[2].Space = false },
		func(m *api.Macro) { m.Body[2].Parts = nil },
		func(m *api.Macro) { m.Body[2].Parts[0] = "q" },
		func(m *api.Macro) { m.Body[2].Parts[1] = "p" },
		func(m *api.Macro) { m.Body[2].Parts = m.Body[2].Parts[:1] },
		func(m *api.Macro) { m.Body[2].Parts = append(m.Body[2].Parts, "") },
		func(m *api.Macro) { m.Body[0].Parts = []string{""} },
		func(m *api.Macro) { m.Body[0], m.Body[1] = m.Body[1], m.Body[0] },
	} {
		a, b := base(), base()
		change(&b)
		if macro.Same(a, b) || macro.Same(b, a) {
			t.Errorf("change %d: the same", i)
		}
	}
}

func TestSameOfNilAndEmpty(t *testing.T) {
	with := api.Macro{Name: "n", Params: []string{}, Body: []api.PTok{}}
	if !macro.Same(with, api.Macro{Name: "n"}) || !macro.Same(api.Macro{Name: "n"}, with) {
		t.Error("nil and empty lists are told apart")
	}
	none, empty := []api.PTok{{Text: "a"}}, []api.PTok{{Text: "a", Parts: []string{}}}
	if !macro.Same(api.Macro{Body: none}, api.Macro{Body: empty}) || !macro.Same(api.Macro{Body: empty}, api.Macro{Body: none}) {
		t.Error("nil and empty Parts are told apart")
	}
}

// P5.3

// wantTexts holds the lines of macros, each defined by a text, against what is wanted.
func wantTexts(t *testing.T, of map[string]string) {
	t.Helper()
	for s, want := range of {
		if text, e := macro.Text(defined(t, s)); e != api.OK || text != want {
			t.Errorf("Text of %s: %q, %v, not %q", s, text, e, want)
		}
	}
}

func TestText(t *testing.T) {
	wantTexts(t, map[string]string{
		"X":                         "#define X\n",
		"X\t/* a */ 1  +\t2":        "#define X 1 + 2\n",
		"X 1+2":                     "#define X 1+2\n",
		"X/**/a/**/b":               "#define X a b\n",
		"X (a)":                     "#define X (a)\n",
		"F()":                       "#define F()\n",
		"F( )x":                     "#define F() x\n",
		"F() x":                     "#define F() x\n",
		"F()(x)":                    "#define F() (x)\n",
		"F(a)":                      "#define F(a)\n",
		"F( a , b )a ## b":          "#define F(a,b) a ## b\n",
		"F(a, b)a##b":               "#define F(a,b) a##b\n",
		"F(a) %: a":                 "#define F(a) %: a\n",
		"V(...)":                    "#define V(...)\n",
		"V( ... ) #__VA_ARGS__":     "#define V(...) #__VA_ARGS__\n",
		"V(a, ...) a":               "#define V(a,...) a\n",
		"V(a, b, ...) # b a":        "#define V(a,b,...) # b a\n",
		"X 'a'\"b\" L'c' u8\"d\" @": "#define X 'a'\"b\" L'c' u8\"d\" @\n",
		"F(defined) __LINE__":       "#define F(defined) __LINE__\n",

		// What would be read otherwise is spelt with a splice.
		"X ?\\\n?=":           "#define X ?\\\n?=\n",
		"X ?\\\n?/ a":         "#define X ?\\\n?/ a\n",
		"X \\\\\n":            "#define X \\\\\n\n",
		"X a \\\\\n":          "#define X a \\\\\n\n",
		"X \"?\\\n?(\"":       "#define X \"?\\\n?(\"\n",
		"X ??=":               "#define X #\n",
		"X ? ?= ?\\\n?\\\n?)": "#define X ? ?= ??\\\n?)\n",
		"X \\\nab\\\ncd":      "#define X abcd\n",
	})
}

func TestTextReadAgain(t *testing.T) {
	for _, s := range []string{"X", "X a", "X a b", "X a+b", "X (a)", "F()", "F() a", "F(a)a", "F(a, b) a ## b", "V(...) # __VA_ARGS__", "V(a, ...) a", "X ?\\\n?=", "X \\\\\n", "X \"a b\" 'c'  L'd'", "X <:##:>", "X . . ."} {
		m := defined(t, s)
		text, e := macro.Text(m)
		if e != api.OK {
			t.Errorf("Text of %s: %v", s, e)
			continue
		}
		again, e := macro.Define(content(t, text))
		if e != api.OK || shown(again) != shown(m) {
			t.Errorf("%q: %+v, %v, not %+v", text, again, e, m)
		}
	}
}

// word is a macro token of the kind Word.
func word(text string) api.PTok { return api.PTok{Kind: api.Word, Text: text} }

func TestNoText(t *testing.T) {
	body := func(l ...api.PTok) api.Macro { return api.Macro{Name: "X", Body: l} }
	of := func(kind int, texts ...string) api.Macro {
		var l []api.PTok
		for _, text := range texts {
			l = append(l, api.PTok{Kind: kind, Text: text})
		}
		return body(l...)
	}
	for i, m := range []api.Macro{
		// No name, none that may be, or a name that is more than a name.
		{}, {Name: "1"}, {Name: "+"}, {Name: " "}, {Name: " X"}, {Name: "X "}, {Name: "X Y"}, {Name: "X(a)"}, {Name: "X()"}, {Name: "X\n"}, {Name: "X\nY"}, {Name: "\nX"}, {Name: "X/**/"}, {Name: "X//"}, {Name: "/**/X"}, {Name: "X\\\n"}, {Name: "??="}, {Name: "\xe9"}, {Name: "X\x00"}, {Name: "'"}, {Name: "X/*"},
		{Name: "defined"}, {Name: "__VA_ARGS__"}, {Name: "__LINE__"}, {Name: "_Pragma"}, {Name: "defined", Func: true}, {Name: "_Pragma", Func: true, Params: []string{"a"}, Body: []api.PTok{word("a")}},

		// Parameters.
		{Name: "F", Params: []string{"a"}}, {Name: "F", Variadic: true}, {Name: "F", Params: []string{"a"}, Variadic: true}, {Name: "F", Params: []string{""}},
		{Name: "F", Func: true, Params: []string{""}}, {Name: "F", Func: true, Params: []string{"a", ""}}, {Name: "F", Func: true, Params: []string{"", "a"}}, {Name: "F", Func: true, Params: []string{""}, Variadic: true}, {Name: "F", Func: true, Params: []string{"1"}}, {Name: "F", Func: true, Params: []string{"..."}}, {Name: "F", Func: true, Params: []string{"a", "..."}}, {Name: "F", Func: true, Params: []string{"a,b"}}, {Name: "F", Func: true, Params: []string{"a)"}}, {Name: "F", Func: true, Params: []string{" a"}}, {Name: "F", Func: true, Params: []string{"a "}}, {Name: "F", Func: true, Params: []string{"/**/a"}}, {Name: "F", Func: true, Params: []string{"a\n"}},
		{Name: "F", Func: true, Params: []string{"a", "a"}}, {Name: "F", Func: true, Params: []string{"a", "b", "a"}}, {Name: "F", Func: true, Params: []string{"__VA_ARGS__"}}, {Name: "F", Func: true, Params: []string{"__VA_ARGS__"}, Variadic: true}, {Name: "F", Func: true, Params: []string{"a", "..."}, Variadic: true}, {Name: "F", Func: true, Params: []string{"//"}}, {Name: "F", Func: true, Params: []string{"/*"}}, {Name: "F", Func: true, Params: []string{"'"}},

		// A text that is no token, or none of its kind.
		of(api.Word, ""), of(api.Word, " "), of(api.Word, "a b"), of(api.Word, "1"), of(api.Word, "+"), of(api.Number, "a"), of(api.Punct, "a"), of(api.Punct, ".."), of(api.Punct, "+-"), of(api.Punct, ""), of(api.Other, "a"), of(api.Other, "'"), of(api.Other, "\""), of(api.Chars, "''"), of(api.Chars, "\"a\""), of(api.Chars, "'a"), of(api.String, "'a'"), of(api.String, "\"a"), of(api.String, "\"a\n\""), of(0, ""), of(0, "a"), of(-1, "+"), of(99, "a"), of(api.Punct, "\\"), of(api.Word, "a\\\nb"), of(api.Word, " a"), of(api.Word, "a "),
		of(api.Word, "\n"), of(api.Word, "a\n"), of(api.Word, "\na"), of(api.Word, "a\nb"), of(api.Newline, "\n"), of(api.Comment, "/**/"), of(api.Comment, "// a"), of(api.Comment, "/*\n*/"), of(api.Word, "/**/"), of(api.Word, "a/**/"), of(api.Word, "//"), of(api.Punct, "/*"), of(api.Word, "a\n#define X a"), of(api.Header, "<a>"), of(api.Header, "\"a\""), of(api.Line, "__LINE__"), of(api.Made, ""), of(api.Made, "#pragma"), of(api.Made, "a"), of(api.Line, "1"),

		// Texts that together are another token, or other ones.
		of(api.Word, "a", "b"), of(api.Punct, "+", "+"), of(api.Punct, "+", "="), of(api.Punct, "/", "/"), of(api.Punct, "/", "*"), of(api.Punct, ".", ".", "."), of(api.Punct, "%:", "%", ":"), of(api.Punct, "<", ":"), of(api.Punct, "#", "#"), body(word("L"), api.PTok{Kind: api.Chars, Text: "'a'"}), body(word("a"), api.PTok{Kind: api.Number, Text: "1"}), body(api.PTok{Kind: api.Number, Text: "1e"}, api.PTok{Kind: api.Punct, Text: "+"}),

		// Space of the first token, and Parts.
		body(api.PTok{Kind: api.Word, Text: "a", Space: true}), {Name: "F", Func: true, Body: []api.PTok{{Kind: api.Word, Text: "a", Space: true}}}, body(api.PTok{Kind: api.Word, Text: "a", Parts: []string{""}}), body(word("a"), api.PTok{Kind: api.Punct, Text: "+", Parts: []string{"+"}}), body(api.PTok{Kind: api.Made, Parts: []string{"a"}}),

		// Bodies that may not be.
		of(api.Punct, "##"), of(api.Punct, "%:%:"), body(word("a"), api.PTok{Kind: api.Punct, Text: "##"}), body(api.PTok{Kind: api.Punct, Text: "##"}, word("a")), of(api.Word, "__VA_ARGS__"), {Name: "F", Func: true, Body: []api.PTok{word("__VA_ARGS__")}}, {Name: "F", Func: true, Params: []string{"a"}, Body: []api.PTok{{Kind: api.Punct, Text: "#"}, word("b")}}, {Name: "F", Func: true, Variadic: true, Body: []api.PTok{{Kind: api.Punct, Text: "#"}}},

		// An object whose body would be read as parameters, or parameters as a body.
		{Name: "F(a)", Body: []api.PTok{word("a")}}, {Name: "F(", Func: true}, {Name: "F ", Func: true}, {Name: "F/**/", Func: true},
	} {
		if text, e := macro.Text(m); e != api.ErrDefine || text != "" {
			t.Errorf("%d, Text(%+v): %q, %v", i, m, text, e)
		}
		if _, is := wantText(m); is {
			t.Errorf("%d, %+v: the tests want a text", i, m)
		}
	}
}

// tellsText holds what Text answers against what is wanted, and what it answers, read again, against the macro; it says whether there is a text.
func tellsText(t *testing.T, m api.Macro) bool {
	t.Helper()
	text, e := macro.Text(m)
	want, is := wantText(m)
	if is != (e == api.OK) || !is && (e != api.ErrDefine || text != "") || is && text != want {
		t.Fatalf("Text(%+v): %q, %v, not %q, %v", m, text, e, want, is)
	}
	if !is {
		return false
	}
	again, e := macro.Define(content(t, text))
	if e != api.OK || shown(again) != shown(m) {
		t.Fatalf("%q: %+v, %v, not %+v", text, again, e, m)
	}
	return true
}

// bodyParts are macro tokens as they may stand in a body, or may not.
func bodyParts() []api.PTok {
	var l []api.PTok
	for _, t := range []api.PTok{
		{Kind: api.Word, Text: "a"}, {Kind: api.Word, Text: "__VA_ARGS__"}, {Kind: api.Number, Text: "1e"}, {Kind: api.Punct, Text: "+"}, {Kind: api.Punct, Text: "."}, {Kind: api.Punct, Text: "/"},
		{Kind: api.Punct, Text: "%:"}, {Kind: api.Punct, Text: "%"}, {Kind: api.Punct, Text: ":"}, {Kind: api.Punct, Text: "##"}, {Kind: api.Punct, Text: "#"}, {Kind: api.Punct, Text: "("}, {Kind: api.Punct, Text: "?"}, {Kind: api.Punct, Text: "="},
		{Kind: api.Other, Text: "\\"}, {Kind: api.Chars, Text: "'a'"}, {Kind: api.String, Text: "L\"\""},
	} {
		l = append(l, t)
		t.Space = true
		l = append(l, t)
	}
	return append(l, api.PTok{Kind: api.Word}, api.PTok{Kind: api.Comment, Text: "/**/"}, api.PTok{Kind: api.Made, Text: "a"})
}

func TestTextOfEveryShortBody(t *testing.T) {
	told, parts := 0, bodyParts()
	heads := []api.Macro{{Name: "X"}, {Name: "F", Func: true}, {Name: "F", Func: true, Params: []string{"a"}}, {Name: "V", Func: true, Params: []string{"b", "a"}, Variadic: true}}
	var longer func(m api.Macro, n int)
	longer = func(m api.Macro, n int) {
		if tellsText(t, m) {
			told++
		}
		if n == 0 {
			return
		}
		for _, p := range parts {
			next := m
			next.Body = append(slices.Clone(m.Body), p)
			longer(next, n-1)
		}
	}
	for _, head := range heads {
		longer(head, 3)
	}
	if told < 30000 {
		t.Error("too few macros have a text:", told)
	}
}

func TestTextOfEveryHead(t *testing.T) {
	told := 0
	texts := []string{"", "a", "b", "_1", "1", "a b", "defined", "__VA_ARGS__", "__LINE__", "_Pragma", "...", ",", ")", "\n", "/**/", "a/**/", "\\", "?"}
	for _, name := range texts {
		for _, function := range []bool{false, true} {
			for _, variadic := range []bool{false, true} {
				lists := [][]string{nil, {}}
				for _, p := range texts {
					lists = append(lists, []string{p})
					for _, q := range texts {
						lists = append(lists, []string{p, q}, []string{p, "c", q})
					}
				}
				for _, params := range lists {
					for _, body := range [][]api.PTok{nil, {word("x")}} {
						if tellsText(t, api.Macro{Name: name, Func: function, Params: params, Variadic: variadic, Body: body}) {
							told++
						}
					}
				}
			}
		}
	}
	if told < 500 {
		t.Error("too few macros have a text:", told)
	}
}

func TestTextOfOneToken(t *testing.T) {
	// Each text of one, two or three bytes of these, as each kind.
	everyText(strings.Split("a|1|.|+|'|\"|/|*|\\|?|=| |\n|#|%|:|L|\x80", "|"), 3, func(text string) {
		for kind := range 13 {
			tellsText(t, api.Macro{Name: "X", Body: []api.PTok{{Kind: kind, Text: text}}})
		}
	})
}

func TestTextOfLongMacros(t *testing.T) {
	ahead := len("#define ") + len("\n")
	for _, n := range []int{-2, -1, 0, 1, 2, 1 << 16, 1 << 24} {
		want := api.ErrDefine
		if n <= 0 {
			want = api.OK
		}
		long := strings.Repeat("a", api.MaxText-ahead+n)
		for _, m := range []api.Macro{
			{Name: long},
			{Name: "X", Body: []api.PTok{word(long[2:])}},
			{Name: "F", Func: true, Params: []string{"b", long[5:]}},
			{Name: "V", Func: true, Variadic: true, Body: []api.PTok{word(long[8:]), {Kind: api.Punct, Text: "+"}}},
		} {
			text, e := macro.Text(m)
			if e != want || e == api.OK && len(text) != api.MaxText+n || e != api.OK && text != "" {
				t.Errorf("a line of %d bytes more than there may be: %v, %d bytes", n, e, len(text))
			}
		}
	}
}

func TestTextOfLinesThatSplicesMakeTooLong(t *testing.T) {
	// Each ? of these but the last one needs a splice.
	marks := func(n int) api.Macro {
		m := api.Macro{Name: "X"}
		for range n {
			m.Body = append(m.Body, api.PTok{Kind: api.Punct, Text: "?", Space: len(m.Body) > 0}, api.PTok{Kind: api.Punct, Text: "?"}, api.PTok{Kind: api.Punct, Text: "="})
		}
		return m
	}
	most := (api.MaxText - len("#define X\n")) / len(" ?\\\n?=")
	if !tellsText(t, marks(most)) || tellsText(t, marks(most+1)) {
		t.Error("not as many as fit")
	}
	spelt, _ := macro.Text(marks(1))
	if l, e := phys.Logical(spelt); e != api.OK || l != "#define X ??=\n" {
		t.Errorf("%q: %q, %v", spelt, l, e)
	}
}

func TestTextOfHugeMacros(t *testing.T) {
	// If all of these lines were written out, the memory would not do.
	long := strings.Repeat("a", 1<<20)
	m := api.Macro{Name: "X", Func: true}
	for range 1 << 20 {
		m.Params = append(m.Params, long)
		m.Body = append(m.Body, api.PTok{Kind: api.Word, Text: long, Space: true})
	}
	for _, huge := range []api.Macro{m, {Name: "X", Body: m.Body}, {Name: "X", Func: true, Params: m.Params}} {
		if text, e := macro.Text(huge); e != api.ErrDefine || text != "" {
			t.Errorf("%v, %d bytes", e, len(text))
		}
	}
	if !macro.Same(m, m) {
		t.Error("a macro is not the same as itself")
	}
}

// P5.4

func TestArgumentsAreOnlyRead(t *testing.T) {
	for _, text := range []string{"x", "x a b", "x(a,b,.) a#b p v", "x()", "x(a,a)", "x(a)#b", "x(a)p", "x(", ""} {
		whole := toks(text + " (a) # v ,)")
		l := whole[:len(toks(text))]
		before := slices.Clone(whole)
		m, _ := macro.Define(l)
		made := macro.Of(l)
		for i := range made {
			made[i] = api.PTok{Text: "written"}
		}
		for i := range m.Body {
			m.Body[i] = api.PTok{Text: "written"}
		}
		_, _ = append(made, api.PTok{}), append(m.Body, api.PTok{})
		if !slices.Equal(whole, before) {
			t.Errorf("%s: the argument is changed, or handed out: %v", text, whole)
		}
	}
}

func TestMacrosAreOnlyRead(t *testing.T) {
	params := []string{"a", "b", "c", "d"}
	body := []api.PTok{word("a"), {Kind: api.Punct, Text: "#", Space: true}, word("b"), {Kind: api.Made, Parts: []string{"p", "q"}}, word("e")}
	m := api.Macro{Name: "X", Func: true, Params: params[:2], Variadic: true, Body: body[:3]}
	other := api.Macro{Name: "X", Func: true, Params: params[:2], Variadic: true, Body: body[:4]}
	whole := shown(api.Macro{Params: params, Body: body})
	if _, e := macro.Text(m); e != api.OK {
		t.Error(e)
	}
	if _, e := macro.Text(other); e != api.ErrDefine {
		t.Error(e)
	}
	if macro.Same(m, other) || !macro.Same(m, m) {
		t.Error("Same")
	}
	if shown(api.Macro{Params: params, Body: body}) != whole {
		t.Errorf("macros are changed: %v, %+v", params, body)
	}
}

func TestResultsAreNew(t *testing.T) {
	for _, text := range []string{"x", "x a 1", "x(a,b,.) a # b v", "x(a)"} {
		l := toks(text)
		m, _ := macro.Define(l)
		again, _ := macro.Define(l)
		want := shown(again)
		made, madeAgain := macro.Of(l), macro.Of(l)
		wantMade := shown(api.Macro{Body: madeAgain})
		for i := range m.Body {
			m.Body[i] = api.PTok{Text: "written", Parts: []string{"written"}}
		}
		for i := range m.Params {
			m.Params[i] = "written"
		}
		for i := range made {
			made[i] = api.PTok{Text: "written"}
		}
		_, _, _ = append(m.Params, "appended"), append(m.Body, api.PTok{Text: "appended"}), append(made, api.PTok{})
		if shown(again) != want || shown(api.Macro{Body: madeAgain}) != wantMade {
			t.Errorf("%s: two results share memory", text)
		}
		if third, _ := macro.Define(l); shown(third) != want || shown(api.Macro{Body: macro.Of(l)}) != wantMade {
			t.Errorf("%s: a result is kept", text)
		}
	}
}

func TestTextsAreNew(t *testing.T) {
	l := definition(t, "name(first, second, ...) first second # first plain")
	m, e := macro.Define(l)
	if e != api.OK {
		t.Fatal(e)
	}
	texts := slices.Concat([]string{m.Name}, m.Params)
	for _, p := range slices.Concat(m.Body, macro.Of(l)) {
		texts = append(texts, p.Text)
	}
	for i, text := range texts {
		for _, x := range l {
			if shares(text, x.Text) {
				t.Errorf("%q shares memory with the list that was given", text)
			}
		}
		for _, other := range texts[:i] {
			if shares(text, other) {
				t.Errorf("%q shares memory with another text of the result", text)
			}
		}
	}
	told, e := macro.Text(m)
	if e != api.OK {
		t.Fatal(e)
	}
	for _, text := range texts {
		if shares(told, text) {
			t.Errorf("%q shares memory with %q", told, text)
		}
	}
}

// shares says whether two texts have bytes in the same place.
func shares(a, b string) bool {
	from, to := uintptr(unsafe.Pointer(unsafe.StringData(a))), uintptr(unsafe.Pointer(unsafe.StringData(b)))
	return from < to+uintptr(len(b)) && to < from+uintptr(len(a))
}

// P5.5

// fillings are what may stand for white space within a line.
func fillings() []string {
	return []string{" ", "\t", "\v \f", "/**/", "/* a\n # b */", " /*\n*/ ", "\\\n ", " ??/\n/**/\\\n"}
}

func TestWhiteSpaceMakesNoDifference(t *testing.T) {
	// Where ~ stands there is white space, where ` stands there may be some.
	for _, pattern := range []string{
		"`#`define~X`\n", "`#`define~X~1`\n", "`%:`define~X~a~+b~(~c)`\n", "#define~X~(a)~a`\n", "#define~X~#~##~a#`\n",
		"`#`define~F(`)`\n", "#define~F(`)`x`\n", "#define~F(`a`)`a`\n", "#define~F(`a`,`b`)`(a)~##~b`\n", "#define~V(`...`)`#__VA_ARGS__~#~__VA_ARGS__`\n", "#define~V(`a`,`...`)`a~,##__VA_ARGS__~\"b\"`\n",
	} {
		plain, e := macro.Define(content(t, strings.NewReplacer("~", " ", "`", "").Replace(pattern)))
		if e != api.OK {
			t.Fatalf("%q: %v", pattern, e)
		}
		pieces := strings.FieldsFunc(strings.NewReplacer("~", "|~|", "`", "|`|").Replace(pattern), func(r rune) bool { return r == '|' })
		met := 0
		for first := range fillings() {
			for step := range len(fillings()) + 1 {
				var s strings.Builder
				n := first
				for _, piece := range pieces {
					switch n += step; {
					case piece == "~":
						s.WriteString(fillings()[n%len(fillings())])
					case piece != "`":
						s.WriteString(piece)
					case n%3 > 0:
						s.WriteString(fillings()[n%len(fillings())])
					}
				}
				met++
				m, e := macro.Define(content(t, s.String()))
				if e != api.OK || shown(m) != shown(plain) || !macro.Same(m, plain) {
					t.Fatalf("%q: %+v, %v, not %+v", s.String(), m, e, plain)
				}
			}
		}
		if met < 60 {
			t.Error("too few texts:", met)
		}
	}
}

func TestCommentsMakeNoDifference(t *testing.T) {
	met := 0
	everyText([]string{"(", ")", ",", "...", "a", "#", "##", " ", "1"}, 5, func(text string) {
		of := func(white string) api.Macro {
			m, _ := macro.Define(content(t, "#define X"+strings.ReplaceAll(text, " ", white)+"\n"))
			return m
		}
		blanks := of(" ")
		if !strings.Contains(text, " ") || isZero(blanks) {
			return
		}
		met++
		for _, white := range []string{"/**/", "\t/*\n*/ "} {
			if m := of(white); shown(m) != shown(blanks) {
				t.Fatalf("#define X%s with %q for blanks: %+v, not %+v", text, white, m, blanks)
			}
		}
	})
	if met < 3000 {
		t.Error("too few definitions with white space:", met)
	}
}

func TestThatThereIsWhiteSpaceMakesADifference(t *testing.T) {
	for _, c := range [][2]string{{"F(a) a", "F (a) a"}, {"F(a) a", "F/**/(a) a"}, {"X a+b", "X a +b"}, {"X a+b", "X a/**/+b"}, {"F(a) #a", "F(a) # a"}} {
		if macro.Same(defined(t, c[0]), defined(t, c[1])) {
			t.Errorf("%s and %s are the same", c[0], c[1])
		}
	}
}

func TestDefinitionsAreTextsAgain(t *testing.T) {
	// What is read from a line has a text, which is read as the same, and it is the text of that.
	met := 0
	everyText([]string{"(a)", "(...)", "a", "#", "##", " ", "+", ".", "?", "=", "__VA_ARGS__"}, 4, func(text string) {
		m, e := macro.Define(content(t, "#define X"+text+"\n"))
		if e != api.OK {
			return
		}
		met++
		if !tellsText(t, m) {
			t.Fatalf("#define X%s: no text", text)
		}
	})
	if met < 2000 {
		t.Error("too few definitions:", met)
	}
}
