package expand_test

import (
	"fmt"
	"slices"
	"strings"
	"testing"
	"unsafe"

	"reglet/api"
	"reglet/expand"
	"reglet/lines"
	"reglet/macro"
	"reglet/scan"
)

// mayDefine are the macros that lines, each behind a #define, define, if each of them does.
func mayDefine(t *testing.T, of ...string) (defs []api.Macro, may bool) {
	t.Helper()
	for _, line := range of {
		l, e := scan.Scan("#define " + line + "\n")
		if e != api.OK {
			t.Fatalf("Scan of %s: %v", line, e)
		}
		m, e := macro.Define(lines.Says(lines.Rows(l)[0]))
		if e != api.OK {
			return nil, false
		}
		defs = append(defs, m)
	}
	return defs, true
}

// defined are the macros that the lines of a text, each behind a #define, must define.
func defined(t *testing.T, s string) []api.Macro {
	t.Helper()
	of := strings.FieldsFunc(s, func(r rune) bool { return r == '\n' })
	defs, may := mayDefine(t, of...)
	if !may {
		t.Fatalf("what does not define: %q", s)
	}
	return defs
}

// list are the macro tokens of a text.
func list(t *testing.T, s string) []api.PTok {
	t.Helper()
	l, e := scan.Scan(s + "\n")
	if e != api.OK {
		t.Fatalf("Scan of %s: %v", s, e)
	}
	return macro.Of(scan.Bare(l))
}

// written is a list as the test tables write it: the texts, with a . ahead of those with Space, a Line in < >, and the Parts of a Made in [ ].
func written(l []api.PTok) string {
	var s []string
	for _, t := range l {
		text := t.Text
		switch t.Kind {
		case api.Line:
			text = "<" + text + ">"
		case api.Made:
			text += "[" + strings.Join(t.Parts, " ") + "]"
		}
		s = append(s, map[bool]string{true: "."}[t.Space]+text)
	}
	return strings.Join(s, " ")
}

// shown is all that a list says.
func shown(l []api.PTok) string {
	var s strings.Builder
	for _, t := range l {
		fmt.Fprintf(&s, "(%d %q %v %q)", t.Kind, t.Text, t.Space, t.Parts)
	}
	return s.String()
}

// holds expands a list, with as many steps as there may be, and holds the answer against the reference and against what is wanted: a list as it is written, or an error.
func holds(t *testing.T, macros, text, want string) {
	t.Helper()
	defs, l := defined(t, macros), list(t, text)
	got, e := expand.Expand(defs, l, api.MaxSteps)
	told := written(got)
	if e != api.OK {
		told = e.Error()
		if len(got) != 0 {
			t.Errorf("%q, %s: %s beside %v", macros, text, written(got), e)
		}
	}
	if told != want {
		t.Errorf("%q, %s: %s, not %s", macros, text, told, want)
	}
	alsoWanted(t, defs, l)
}

// alsoWanted holds what Expand answers against the reference: with the steps that just suffice (up to an error, if there is one), with one fewer, and with half of them. It answers what is output, or the error.
func alsoWanted(t *testing.T, defs []api.Macro, l []api.PTok) ([]api.PTok, api.Errno) {
	t.Helper()
	output, taken, first := wantExpand(defs, l, api.MaxSteps)
	for _, steps := range slices.Compact([]int{min(taken, api.MaxSteps), taken - 1, taken / 2}) {
		if steps < 0 {
			continue
		}
		want, wanted := output, first
		if steps < taken {
			want, _, wanted = wantExpand(defs, l, steps)
		}
		got, e := expand.Expand(defs, l, steps)
		if e != wanted || shown(got) != shown(want) {
			t.Fatalf("%+v, %s, %d steps: %s, %v, not %s, %v", defs, written(l), steps, written(got), e, written(want), wanted)
		}
		if first == api.OK && (e == api.OK) != (steps >= taken) {
			t.Fatalf("%+v, %s takes %d steps, but with %d: %v", defs, written(l), taken, steps, e)
		}
	}
	return output, first
}

const (
	errCall   = "error 60"
	errPaste  = "error 61"
	errLayout = "error 62"
	errFuel   = "error 63"
)

// P6.1: wrong arguments

func TestSteps(t *testing.T) {
	defs, l := defined(t, "X 1"), list(t, "a")
	for steps, want := range map[int]api.Errno{
		-1 << 62: api.ErrArg, -1: api.ErrArg, 0: api.OK, 1: api.OK, api.MaxSteps - 1: api.OK, api.MaxSteps: api.OK, api.MaxSteps + 1: api.ErrArg, 1 << 62: api.ErrArg,
	} {
		for _, macros := range [][]api.Macro{nil, {}, defs} {
			for _, tokens := range [][]api.PTok{nil, {}, l} {
				got, e := expand.Expand(macros, tokens, steps)
				if e != want || e == api.OK && shown(got) != shown(tokens) || e != api.OK && len(got) != 0 {
					t.Errorf("%d macros, %d tokens, %d steps: %s, %v", len(macros), len(tokens), steps, written(got), e)
				}
			}
		}
	}
}

func TestMacrosThatMayNotBe(t *testing.T) {
	word := func(text string) api.PTok { return api.PTok{Kind: api.Word, Text: text} }
	x := api.Macro{Name: "X", Body: []api.PTok{word("a")}}
	for i, wrong := range [][]api.Macro{
		// Two of one name: the same, of other bodies, of other kinds.
		{x, x},
		{x, {Name: "X"}},
		{{Name: "Y"}, x, {Name: "Z"}, {Name: "X", Func: true}},
		{{Name: "X", Func: true}, {Name: "X", Func: true, Params: []string{"a"}}},

		// Without a line.
		{{}},
		{{Name: "1"}}, {{Name: "X "}}, {{Name: "X(a)"}},
		{{Name: "__LINE__"}}, {{Name: "__LINE__", Func: true}}, {{Name: "__VA_ARGS__"}}, {{Name: "defined"}}, {{Name: "_Pragma"}},
		{x, {Name: "Y", Params: []string{"a"}}},
		{{Name: "Y", Variadic: true}, x},
		{{Name: "F", Func: true, Params: []string{"a", "a"}}},
		{{Name: "F", Func: true, Params: []string{"__VA_ARGS__"}}},
		{{Name: "X", Body: []api.PTok{{Kind: api.Word, Text: "a", Space: true}}}},
		{{Name: "X", Body: []api.PTok{{Kind: api.Word, Text: "1"}}}},
		{{Name: "X", Body: []api.PTok{word("__VA_ARGS__")}}},
		{{Name: "X", Body: []api.PTok{{Kind: api.Punct, Text: "##"}, word("a")}}},
		{{Name: "X", Body: []api.PTok{word("a"), {Kind: api.Punct, Text: "%:%:"}}}},
		{{Name: "F", Func: true, Body: []api.PTok{{Kind: api.Punct, Text: "#"}}}},
		{{Name: "F", Func: true, Params: []string{"a"}, Body: []api.PTok{{Kind: api.Punct, Text: "#"}, word("b")}}},
		{{Name: "X", Body: []api.PTok{{Kind: api.Made, Parts: []string{"a"}}}}},
		{{Name: "X", Body: []api.PTok{{Kind: api.Line, Text: "__LINE__"}}}},
		{{Name: "X", Body: []api.PTok{{Kind: api.Word, Text: "a", Parts: []string{"a"}}}}},
		{{Name: "X", Body: []api.PTok{word(strings.Repeat("a", api.MaxText))}}},
	} {
		for _, l := range [][]api.PTok{nil, list(t, "a"), list(t, "X(")} {
			for _, steps := range []int{-1, 0, api.MaxSteps, api.MaxSteps + 1} {
				if got, e := expand.Expand(wrong, l, steps); e != api.ErrArg || len(got) != 0 {
					t.Errorf("%d, %+v, %d steps: %s, %v", i, wrong, steps, written(got), e)
				}
			}
		}
	}
	if got, e := expand.Expand([]api.Macro{x, {Name: "x"}}, list(t, "X x"), api.MaxSteps); e != api.OK || written(got) != "a" {
		t.Error("names that part in case:", written(got), e)
	}
}

// P6.1: the chapter's examples

func TestExamples(t *testing.T) {
	for _, c := range []struct{ macros, text, want string }{
		{"X X Y\nY X 1", "X Y", "X .X .1 .X .Y .1"},
		{"F(a) a + a\nO F", "F(1) O (2) F", "1 .+ .1 .2 .+ .2 .F"},
		{"F(a) a F", "F(1)(2)(3)", "1 .F ( 2 ) ( 3 )"},
		{"C(a, b) a ## b", "C(x, 1) C(, y) C(,) +", "x1 .y .+"},
		{"f(a) a * g\ng(a) f(a)", "f(2)(9)", "2 .* .9 .* .g"},
		{"C(a, b) a ## b\nAB C(A,", "AB B) B)", "C ( A , .B )"},
		{"S(a) #a", "S(a  __LINE__)", "[a __LINE__]"},
		{"T(a) S(a)\nS(a) #a", "T(__LINE__)", errLayout},
		{"P(a) a ## 1", "P(+)", errPaste},
		{"P(a) a ## 1", "P(__LINE__)", "__LINE__1"},
		{"N() 1\nV(a, ...) __VA_ARGS__", "N() V(1, 2, 3) V(1,)", "1 .2 , .3"},
		{"N() 1\nV(a, ...) __VA_ARGS__", "N(1)", errCall},
		{"N() 1\nV(a, ...) __VA_ARGS__", "V(1)", errCall},
		{"N() 1\nV(a, ...) __VA_ARGS__", "N(", errCall},

		// That of the whole.
		{"F(a) a F", "F(1)(2)", "1 .F ( 2 )"},
	} {
		holds(t, c.macros, c.text, c.want)
	}
}

// P6.1: __LINE__

func TestLine(t *testing.T) {
	for _, c := range []struct{ macros, text, want string }{
		{"", "__LINE__", "<__LINE__>"},
		{"", "a __LINE__( __LINE__)+__LINE__", "a .<__LINE__> ( .<__LINE__> ) + <__LINE__>"},
		{"", "__line__ __LINE __LINE__1", "__line__ .__LINE .__LINE__1"},
		{"X __LINE__", "X, X", "<__LINE__> , .<__LINE__>"},
		{"X __LINE__ __LINE__", "X", "<__LINE__> .<__LINE__>"},
		{"F(a) a+a", "F(__LINE__) F( 1 __LINE__)", "<__LINE__> + <__LINE__> .1 .<__LINE__> + 1 .<__LINE__>"},
		{"F(a) G(a)\nG(a) a", "F(__LINE__)", "<__LINE__>"},
		{"F(__LINE__) __LINE__", "F(1) F(__LINE__)", "1 .<__LINE__>"},
		{"F(a) __LINE__", "F(__LINE__)", "<__LINE__>"},
		{"F() 1", "__LINE__() F()", "<__LINE__> ( ) .1"},
		{"F(__LINE__) #__LINE__ x##__LINE__", "F(1) F(__LINE__)", "[1] .x1 .[__LINE__] .x__LINE__"},

		// What is pasted comes to it, too; what has become it does not any more.
		{"C(a, b) a##b", "C(__LI, NE__)", "<__LINE__>"},
		{"C(a, b) a##b", "C(__LINE, __) C(,__LINE__) C(__LINE__,)", "<__LINE__> .<__LINE__> .<__LINE__>"},
		{"F(a) C(a, 1)\nC(a, b) a##b", "F(__LINE__)", errLayout},
		{"F(a) C(1, a)\nC(a, b) a##b", "F(__LINE__)", errLayout},
		{"F(a) C(a,)\nC(a, b) a##b", "F(__LINE__)", "<__LINE__>"},
		{"F(a) C(,a)\nC(a, b) a##b", "F(__LINE__)", "<__LINE__>"},
	} {
		holds(t, c.macros, c.text, c.want)
	}
}

func TestLineHasItsFields(t *testing.T) {
	l := []api.PTok{
		{Kind: api.Word, Text: "__LINE__", Space: true, Parts: []string{"a", ""}}, {Kind: api.Line, Text: "__LINE__"}, {Kind: api.String, Text: "__LINE__"},
		{Kind: api.Number, Text: "__LINE__", Parts: []string{"b"}}, {Kind: 0, Text: "__LINE__"}, {Kind: api.Line, Text: "X", Space: true},
	}
	want := slices.Clone(l)
	want[0].Kind = api.Line
	if got, e := expand.Expand(defined(t, "X 1"), l, 0); e != api.OK || shown(got) != shown(want) {
		t.Errorf("%s, %v", shown(got), e)
	}
}

// P6.1: what is replaced, and what is not

func TestObjects(t *testing.T) {
	for _, c := range []struct{ macros, text, want string }{
		{"", "", ""},
		{"", "a(b) + 'c'", "a ( b ) .+ .'c'"},
		{"X", "", ""},
		{"X", "X", ""},
		{"X", "X X", ""},
		{"X", "a X b X", "a .b"},
		{"X 1", "X", "1"},
		{"X 1", "X X(X) x XX", "1 .1 ( 1 ) .x .XX"},
		{"X 1 + 2", "X*X", "1 .+ .2 * 1 .+ .2"},
		{"X Y\nY Z\nZ 1", "X Y Z", "1 .1 .1"},
		{"X Y\nZ 1\nY Z", "X", "1"},

		// Macros that come to themselves.
		{"X X", "X X", "X .X"},
		{"X 1 X", "X", "1 .X"},
		{"X (X)", "X", "( X )"},
		{"X a X X b", "X", "a .X .X .b"},
		{"X Y a\nY X b", "X Y", "X .b .a .Y .a .b"},
		{"X Y\nY Z\nZ X", "X Y Z", "X .Y .Z"},
		{"X X Y\nY X Y Z\nZ X Y Z", "X", "X .X .Y .X .Y .Z"},

		// # and ## in their bodies.
		{"X # a", "X", "# .a"},
		{"X # X", "X", "# .X"},
		{"X %: a #", "X", "%: .a .#"},
		{"X a ## b", "X", "ab"},
		{"X a##1 + b %:%: 2", "X", "a1 .+ .b2"},
		{"X Y ## Z\nY 1\nZ 2\nYZ 3", "X", "3"},
		{"X X ## X\nXX X", "X", "X"},
		{"X # ## #", "X", "##"},
	} {
		holds(t, c.macros, c.text, c.want)
	}
}

func TestOnlyWordsAreReplaced(t *testing.T) {
	defs := defined(t, "X 1\nF(a) a")
	for kind := -1; kind < 13; kind++ {
		for _, text := range []string{"X", "F"} {
			l := []api.PTok{{Kind: kind, Text: text, Space: true, Parts: []string{"p"}}, {Kind: api.Punct, Text: "("}, {Kind: api.Punct, Text: ")"}}
			got, _ := alsoWanted(t, defs, l)
			if same := shown(got) == shown(l); same != (kind != api.Word) {
				t.Errorf("%s of the kind %d: %s", text, kind, shown(got))
			}
		}
	}
}

func TestNoCall(t *testing.T) {
	for _, c := range []struct{ macros, text, want string }{
		// No ( behind the name, or nothing.
		{"F() 1", "F", "F"},
		{"F() 1", "F F", "F .F"},
		{"F() 1", "F F() F", "F .1 .F"},
		{"F() 1", "F)", "F )"},
		{"F() 1", "F[]() F{}", "F [ ] ( ) .F { }"},
		{"F() 1", "(F)()", "( F ) ( )"},
		{"F() 1\nE", "F E ()", "F .( )"},
		{"F() 1\nL (", "F L )", "F .( .)"},
		{"F() 1\nL ()", "F L", "F .( )"},
		{"F(a) a", "F(F)", "F"},
		{"F(a) a", "F(F)(1)", "F ( 1 )"},
		{"F(a) [a]", "F(F(1)) F(F) (1)", "[ [ 1 ] ] .[ F ] .( 1 )"},

		// An argument ends a list by itself.
		{"F(a) a\nG() 1", "F(G)() F(G)", "1 .G"},
		{"F(a, b) a b\nG() 1", "F(G,()) F(G,)()", "1 .1"},
		{"F(a, b) b a\nG() 1", "F((),G)", "1"},

		// The ( is behind the replacement of another.
		{"O F\nF() 1", "O()", "1"},
		{"O F\nF() 1", "O () O", "1 .F"},
		{"O a F\nF(x) x", "O(b)", "a .b"},
		{"F() G\nG() F", "F()", "G"},
		{"F() G\nG() F", "F()()", "F"},
		{"F() G\nG() F", "F()()()()", "F"},
		{"F(a) a\nG(a) <a>", "F(G)(1)", "< 1 >"},
		{"O F(\nF(a) [a]", "O 1)", "[ 1 ]"},
		{"O F(1\nF(a, b) [a b]", "O, 2) O,)", "[ 1 .2 ] .[ 1 ]"},
		{"R )\nF(a) [a]", "F(1 R)", "[ 1 .) ]"},
	} {
		holds(t, c.macros, c.text, c.want)
	}
}

func TestOnlyPunctsAreSigns(t *testing.T) {
	defs := defined(t, "F(a, b) a b")
	for kind := -1; kind < 13; kind++ {
		for _, text := range []string{"F(1,2)", "F((1,),2)", "F(1,((,)))", "F()", "F(),)"} {
			for at := range list(t, text) {
				l := list(t, text)
				l[at].Kind = kind
				alsoWanted(t, defs, l)
			}
		}
	}
	l := list(t, "F(1,2)")
	l[1].Kind = api.Other
	if got, e := expand.Expand(defs, l, 0); e != api.OK || shown(got) != shown(l) {
		t.Error("a ( that is no Punct:", written(got), e)
	}
	for _, at := range []int{3, 5} {
		l := list(t, "F(1,2)")
		l[at].Kind = api.Other
		if got, e := expand.Expand(defs, l, api.MaxSteps); e != api.ErrCall || len(got) != 0 {
			t.Error("a , or ) that is no Punct:", written(got), e)
		}
	}
}

// P6.1: calls

func TestUnclosedCalls(t *testing.T) {
	for _, c := range []struct{ macros, text, want string }{
		{"F(a) a", "F(", errCall},
		{"F() 1", "F(", errCall},
		{"F(...) 1", "F(", errCall},
		{"F(a) a", "F(1", errCall},
		{"F(a) a", "F((1)", errCall},
		{"F(a) a", "F(()()", errCall},
		{"F(a) a", "F(1,", errCall},
		{"F(a) a", "F(1) F(", errCall},
		{"F(a) a", "F(1] }", errCall},
		{"F(a) a", "F(F(1)", errCall},
		{"F(a) a", "G(F(1)", "G ( 1"},
		{"F(a) a\nO F(", "O", errCall},
		{"F(a) a\nO F(1", "O", errCall},
		{"F(a) a\nR )", "F(1 R", errCall},
		{"F(a) a\nL (", "F(L)", "("},
		{"F(a) a\nL G(\nG(a) <a>", "F(L)1)", errCall},
		{"F(a) x##a\nL G(\nG(a) <a>", "F(L)1)", "xL 1 )"},
		{"F(a) 1 G(\nG(a) [a]", "F(2) 3)", "1 .[ 3 ]"},
		{"F(a) a 1\nV(...) __VA_ARGS__\nO F(", "V(O, 2)", errCall},
		{"F(a) a 1\nV(...) __VA_ARGS__\nO F(", "V(1, (O 2), 3)", "1 , .( 2 .1 , .3"},
	} {
		holds(t, c.macros, c.text, c.want)
	}
}

func TestNumbersOfArguments(t *testing.T) {
	for _, c := range []struct{ macros, text, want string }{
		// No parameter.
		{"F() x", "F()", "x"},
		{"F() x", "F( )", "x"},
		{"F() x", "F(1)", errCall},
		{"F() x", "F(())", errCall},
		{"F() x", "F(,)", errCall},
		{"F() x\nE", "F(E)", errCall},

		// One.
		{"F(a) <a>", "F()", "< >"},
		{"F(a) <a>", "F(1)", "< 1 >"},
		{"F(a) <a>", "F(1 2)", "< 1 .2 >"},
		{"F(a) <a>", "F(1;2:[3]{4})", "< 1 ; 2 : [ 3 ] { 4 } >"},
		{"F(a) <a>", "F(,)", errCall},
		{"F(a) <a>", "F(1,)", errCall},
		{"F(a) <a>", "F(,1)", errCall},
		{"F(a) <a>", "F(1,2)", errCall},
		{"F(a) <a>\nC ,", "F(C) F(1 C 2)", "< , > .< 1 ., .2 >"},
		{"F(a) <a>\nG(a) F(a)\nC ,", "G(C)", errCall},
		{"F(a, b) <b a>\nG(a) F(a)\nC ,", "G(1 C 2)", "< 2 .1 >"},

		// Several.
		{"F(a, b) <a|b>", "F(,)", "< | >"},
		{"F(a, b) <a|b>", "F(1,)", "< 1 | >"},
		{"F(a, b) <a|b>", "F(,2)", "< | 2 >"},
		{"F(a, b) <a|b>", "F(1 1,2)", "< 1 .1 | 2 >"},
		{"F(a, b) <a|b>", "F()", errCall},
		{"F(a, b) <a|b>", "F(1)", errCall},
		{"F(a, b) <a|b>", "F(1,2,)", errCall},
		{"F(a, b) <a|b>", "F(1,2,3)", errCall},
		{"F(a, b) <a|b>", "F(,,)", errCall},
		{"F(a, b, c) c b a", "F(1,2,3) F(,,) F(,2,)", "3 .2 .1 .2"},
		{"F(a, b, c) c b a", "F(1,2)", errCall},
		{"F(a, b, c) c b a", "F(1,2,3,4)", errCall},
		{"F(a, b) x", "F(1)", errCall},

		// ... alone.
		{"V(...) <__VA_ARGS__>", "V()", "< >"},
		{"V(...) <__VA_ARGS__>", "V(1)", "< 1 >"},
		{"V(...) <__VA_ARGS__>", "V(1,2,3)", "< 1 , 2 , 3 >"},
		{"V(...) <__VA_ARGS__>", "V(,)", "< , >"},
		{"V(...) <__VA_ARGS__>", "V(,,2)", "< , , 2 >"},
		{"V(...) x", "V() V(1) V(,)", "x .x .x"},

		// ... behind others.
		{"V(a, ...) <a|__VA_ARGS__>", "V()", errCall},
		{"V(a, ...) <a|__VA_ARGS__>", "V(1)", errCall},
		{"V(a, ...) <a|__VA_ARGS__>", "V(,)", "< | >"},
		{"V(a, ...) <a|__VA_ARGS__>", "V(1,)", "< 1 | >"},
		{"V(a, ...) <a|__VA_ARGS__>", "V(,2)", "< | 2 >"},
		{"V(a, ...) <a|__VA_ARGS__>", "V(1,2,3)", "< 1 | 2 , 3 >"},
		{"V(a, ...) <a|__VA_ARGS__>", "V(,,)", "< | , >"},
		{"V(a, b, ...) <a|b|__VA_ARGS__>", "V(1,2)", errCall},
		{"V(a, b, ...) <a|b|__VA_ARGS__>", "V(1,2,)", "< 1 | 2 | >"},
		{"V(a, b, ...) <a|b|__VA_ARGS__>", "V(,,,,)", "< | | , , >"},
		{"V(a, b, ...) x", "V(1,2)", errCall},
	} {
		holds(t, c.macros, c.text, c.want)
	}
}

func TestBracketsWithinArguments(t *testing.T) {
	for _, c := range []struct{ macros, text, want string }{
		{"F(a) <a>", "F((1,2))", "< ( 1 , 2 ) >"},
		{"F(a) <a>", "F(()) F((),)", errCall},
		{"F(a) <a>", "F(()()) F((()))", "< ( ) ( ) > .< ( ( ) ) >"},
		{"F(a, b) <a|b>", "F((1,2),(,))", "< ( 1 , 2 ) | ( , ) >"},
		{"F(a, b) <a|b>", "F(f(1,g(2,3)),4)", "< f ( 1 , g ( 2 , 3 ) ) | 4 >"},
		{"F(a, b) <a|b>", "F([1,2])", "< [ 1 | 2 ] >"},
		{"F(a, b) <a|b>", "F({1,2}) F([,)]", "< { 1 | 2 } > .< [ | > ]"},
		{"V(...) <__VA_ARGS__>", "V((1 , 2) , 3)", "< ( 1 ., .2 ) , .3 >"},
		{"F(a) a+a", "F(F(1))", "1 + 1 + 1 + 1"},
		{"F(a, b) b-a", "F(F(1,2),F(3,4))", "4 - 3 - 2 - 1"},
		{"F(a, b) b-a", "(F(1,(2)),F((3),4))", "( ( 2 ) - 1 , 4 - ( 3 ) )"},
	} {
		holds(t, c.macros, c.text, c.want)
	}
}

func TestCommasOfWhatStandsForMore(t *testing.T) {
	for _, c := range []struct{ macros, text, want string }{
		// They have no Space, whatever those of the call have.
		{"V(...) <__VA_ARGS__>", "V(1 , 2 ,3)", "< 1 , .2 , 3 >"},
		{"V(...) #__VA_ARGS__", "V(1 , 2 ,(3 , 4))", "[1 , 2 , ( 3 , 4 )]"},
		{"V(...) x##__VA_ARGS__", "V(1 , 2 , (3 , 4))", "x1 , .2 , .( 3 ., .4 )"},
		{"V(...) __VA_ARGS__##x", "V(1 , 2 , )", errPaste},
		{"V(...) __VA_ARGS__##x", "V(1 , 2 ,3 )", "1 , .2 , 3x"},
		{"V(a, ...) a##__VA_ARGS__", "V( , , )", ","},
		{"V(a, ...) a##__VA_ARGS__##a", "V( , , )", ","},
		{"V(a, ...) x a ## __VA_ARGS__", "V( , , )", "x .,"},
		{"V(...) W(__VA_ARGS__)\nW(a, b) a-b", "V(1,2)", "1 - 2"},
		{"V(...) W(__VA_ARGS__)\nW(a, b) a-b", "V(1,2,3)", errCall},
		{"V(...) W(__VA_ARGS__)\nW(...) <__VA_ARGS__>", "V(1 , 2 , 3)", "< 1 , .2 , .3 >"},
		{"V(...) (__VA_ARGS__)", "V(V(1 , 2) , V(3 , 4))", "( ( 1 , .2 ) , .( 3 , .4 ) )"},
		{"V(a, ...) a __VA_ARGS__", "V(V(1 , 2) , V(3 , 4))", "1 .2 .3 .4"},
		{"G(a) a x##a\nV(...) [__VA_ARGS__]", "G(V(1 , 2))", "[ 1 , .2 ] .xV ( 1 ., .2 )"},
		{"G(a) x##a a\nV(...) [__VA_ARGS__]", "G(V(1 , 2))", "xV ( 1 ., .2 ) .[ 1 , .2 ]"},

		// They hide nothing, whatever those of the call hide.
		{"V(...) __VA_ARGS__", "V(V(1,2),3)", "1 , 2 , 3"},
		{"O V(F,(1))\nV(...) __VA_ARGS__\nF(a) <a>", "O", "F , ( 1 )"},

		// Each is expanded, and no call reaches over one of them.
		{"V(...) __VA_ARGS__\nX 1", "V(X,X X,,X)", "1 , 1 .1 , , 1"},
		{"V(...) __VA_ARGS__\nF() 1", "V(F,(),F(),F)()", "F , ( ) , 1 , 1"},
		{"V(...) __VA_ARGS__\nF(a) 1\nL F (", "V(1,L,2)", errCall},
		{"V(...) __VA_ARGS__\nF(a, b) 1\nL F (", "V((L 1,2),3)", "( 1 , 3"},
	} {
		holds(t, c.macros, c.text, c.want)
	}
}

// P6.1: bodies that are filled

func TestWhichArgumentsAreExpanded(t *testing.T) {
	for _, c := range []struct{ macros, text, want string }{
		{"F(a) a\nX 1", "F(X)", "1"},
		{"F(a) a #a\nX 1", "F(X)", "1 .[X]"},
		{"F(a) #a a\nX 1", "F(X)", "[X] .1"},
		{"F(a) #a\nX 1", "F(X)", "[X]"},
		{"F(a) a##_ a\nX 1", "F(X)", "X_ .1"},
		{"F(a) _##a a\nX 1", "F(X)", "_X .1"},
		{"F(a) a## a a\nX 1", "F(X)", "XX .1"},
		{"F(a) a a##\ta\nX 1\nXX 2", "F(X)", "1 .2"},
		{"F(a) a##_\nX 1\nX_ 2", "F(X)", "2"},
		{"F(a) a##b##a\nX 1", "F(X) F(1)", "XbX .1b1"},
		{"F(a) #a##a\nX 1", "F(X)", errLayout},
		{"F(a) #a##a\nX 1", "F()", "[]"},
		{"F(a) a#a\nX 1", "F(X)", "1 [X]"},

		// Also behind a call of one that stays.
		{"F(a) a##\t##a\nX 1", "F(X)", "XX"},
		{"F(a) ab a\nX 1\na 2\nab 3", "F(X) a", "3 .1 .2"},

		// A body of one that is not function-like has no parameters, whatever the words are.
		{"F(a) O a\nO a", "F(1)", "a .1"},
		{"a 2\nF(a) O a\nO a", "F(1) a", "2 .1 .2"},
		{"F(F) F", "F(1) F(F)", "1 .F"},
		{"F(F) F##F", "F(F) F(F)(2)", "FF .FF ( 2 )"},

		// What is not needed expanded is not expanded: its errors are none, and it takes no steps.
		{"F(a) x\nG() 1", "F(G(2))", "x"},
		{"F(a) #a\nG() 1", "F(G(2))", "[G ( 2 )]"},
		{"F(a) x##a\nG() 1", "F(G(2))", "xG ( 2 )"},
		{"F(a) a\nG() 1", "F(G(2))", errCall},
	} {
		holds(t, c.macros, c.text, c.want)
	}
}

func TestStringifications(t *testing.T) {
	for _, c := range []struct{ macros, text, want string }{
		{"S(a) #a", "S()", "[]"},
		{"S(a) #a", "S( )", "[]"},
		{"S(a) #a", "S(1)", "[1]"},
		{"S(a) #a", "S( a + \"b\"  'c'@(d , e) )", "[a + \"b\" 'c' @ ( d , e )]"},
		{"S(a) #a", "S(#) S(##) S(S)", "[#] .[##] .[S]"},
		{"S(a) # a", "S(1)", "[1]"},
		{"S(a) %:a %: a", "S(1)", "[1] .[1]"},
		{"S(a, b) #b#a", "S(1,2)", "[2] [1]"},
		{"S(...) #__VA_ARGS__", "S()", "[]"},
		{"S(...) #__VA_ARGS__", "S(1,2)", "[1 , 2]"},
		{"S(...) #__VA_ARGS__", "S(,,)", "[, ,]"},
		{"S(a, ...) #__VA_ARGS__ #a", "S(1,2)", "[2] .[1]"},
		{"S(a) #a\nX 1", "S(X)", "[X]"},
		{"T(a) S(a)\nS(a) #a\nX 1 X", "T(X)", "[1 X]"},
		{"S(a) #a", "S(__LINE__) S(S(1))", "[__LINE__] .[S ( 1 )]"},

		// Of a Line, and of a Made.
		{"T(a) S(a)\nS(a) #a", "T(1 __LINE__)", errLayout},
		{"T(a) S(a)\nS(a) #a", "T(__LINE__ 1)", errLayout},
		{"T(a) S(a)\nS(a) #a", "T(S(1))", errLayout},
		{"T(a) S(1 a)\nS(a) #a", "T(S())", errLayout},
		{"T(a) S(1, a)\nS(...) #__VA_ARGS__", "T(S())", errLayout},
		{"T(a) S(#a)\nS(a) #a", "T(1)", errLayout},
		{"T(a) S(a)\nS(a) a", "T(__LINE__ #)", "<__LINE__> .#"},
	} {
		holds(t, c.macros, c.text, c.want)
	}
	// Also where they were so from the beginning.
	for _, kind := range []int{api.Line, api.Made} {
		l := list(t, "S(1 2 3)")
		for at := range l {
			with := slices.Clone(l)
			with[at].Kind = kind
			alsoWanted(t, defined(t, "S(a) #a"), with)
		}
	}
}

func TestStringificationHasItsFields(t *testing.T) {
	l := list(t, "S(a 1) .")
	l[2].Parts = []string{"x", "y"}
	l[2].Text = " a"
	l[3].Text = ""
	want := []api.PTok{{Kind: api.Made, Parts: []string{" a", ""}}, {Kind: api.Punct, Text: "+", Space: true}, {Kind: api.Made, Space: true, Parts: []string{" a", ""}}, {Kind: api.Punct, Text: ".", Space: true}}
	if got, e := expand.Expand(defined(t, "S(a) #a + # a"), l, 5); e != api.ErrFuel && e != api.OK || e == api.OK && shown(got) != shown(want) {
		t.Errorf("%s, %v, not %s", shown(got), e, shown(want))
	}
	if got, e := expand.Expand(defined(t, "S(a) #a + # a"), l, 4); e != api.OK || shown(got) != shown(want) {
		t.Errorf("%s, %v, not %s", shown(got), e, shown(want))
	}
}

func TestPastings(t *testing.T) {
	for _, c := range []struct{ macros, text, want string }{
		// Tokens, nothing, and both.
		{"C(a, b) a##b", "C(x,y)", "xy"},
		{"C(a, b) a##b", "C(1 x,y 2)", "1 .xy .2"},
		{"C(a, b) a##b", "C(x,) C(,y) C(,) C(1 2,) C(,1 2)", "x .y .1 .2 .1 .2"},
		{"C(a, b) a##b", "C((x,y),)", "( x , y )"},
		{"C(a, b) a %:%: b", "C(x,y)", "xy"},
		{"C(a) a##1", "C() C(x)", "1 .x1"},
		{"C(a) 1##a", "C() C(x)", "1 .1x"},

		// Several behind one another.
		{"C(a, b, c) a##b##c", "C(x,y,z) C(,y,z) C(x,,z) C(x,y,) C(,,z) C(x,,) C(,y,) C(,,)", "xyz .yz .xz .xy .z .x .y"},
		{"C(a, b, c) a##b##c", "C(1 x,2,3 4)", "1 .x23 .4"},
		{"C(a, b, c) a##b##c", "C(1 x,,3 4)", "1 .x3 .4"},
		{"C(a, b, c) a##b##c", "C(x,1 y,2)", "x1 .y2"},
		{"C(a, b, c) a##b c", "C(,,z) C(x,,z) C(,y,z)", "z .x .z .y .z"},
		{"C(a, b, c) a b##c", "C(x,,) C(x,,z) C(x,y,) C(x y,,z)", "x .x z .x .y .x .y z"},
		{"C(a, b) p a##b", "C(,) C(,y) C(x,)", "p .p y .p .x"},
		{"C(a, b) a##b p", "C(,) C(,y) C(x,)", "p .y .p .x .p"},

		// Several in a row.
		{"C(a, b) a####b", "C(x,y) C(x,) C(,y) C(,)", "xy .x .y"},
		{"C(a, b) a## %:%: ## b", "C(x,y)", "xy"},
		{"C(a, b) a ## ## b ## ## a", "C(x,y)", "xyx"},

		// What is one token, and what is none.
		{"C(a, b) a##b", "C(1,x) C(x,1) C(1,.) C(.,1) C(1e,+) C(1.e,+) C(.1p,-)", "1x .x1 .1. ..1 .1e+ .1.e+ ..1p-"},
		{"C(a, b) a##b", "C(<,<=) C(%:,%:) C(&,&) C(-,>) C(#,#) C(<,:) C(%,:)", "<<= .%:%: .&& .-> .## .<: .%:"},
		{"C(a, b) a##b", "C(L,'a') C(u8,\"a\") C(u,\"\")", "L'a' .u8\"a\" .u\"\""},
		{"C(a, b, c) a##b##c", "C(<,<,=)", "<<="},
		{"C(a, b, c) a##b##c", "C(.,.,.)", errPaste},
		{"C(a, b, c) a##b##c", "C(%:,%,:)", errPaste},
		{"C(a, b, c) a##b##c", "C(/,,/)", errPaste},
		{"C(a, b) a##b", "C(x,+)", errPaste},
		{"C(a, b) a##b", "C(+,x)", errPaste},
		{"C(a, b) a##b", "C(1,+)", errPaste},
		{"C(a, b) a##b", "C(x,'a')", errPaste},
		{"C(a, b) a##b", "C(u8,'a')", errPaste},
		{"C(a, b) a##b", "C('a','b')", errPaste},
		{"C(a, b) a##b", "C(\"a\",\"b\")", errPaste},
		{"C(a, b) a##b", "C(\"a\",b)", errPaste},
		{"C(a, b) a##b", "C((),())", errPaste},
		{"C(a, b) a##b", "C(@,@)", errPaste},
		{"C(a, b) a##b", "C([,])", errPaste},
		{"C(a, b) a##b", "C(<,a>)", errPaste},

		// Comments.
		{"C(a, b) a##b", "C(/,/)", errPaste},
		{"C(a, b) a##b", "C(/,*)", errPaste},
		{"C(a, b) a##b", "C(/,*) C(,", errPaste},
		{"C(a, b) a##b", "C(/,/=)", errPaste},
		{"C(a, b) a##b", "C(*,/)", errPaste},
		{"C(a, b) a##b", "C(/,=)", "/="},
		{"X / ## /", "X", errPaste},
		{"X / ## * ## * ## /", "X", errPaste},

		// Of a Line, and of a Made.
		{"P(a) #a##1", "P(x)", errLayout},
		{"P(a) 1##\t#a", "P(x)", errLayout},
		{"P(a) 1##\t#a", "P()", errLayout},
		{"P(a, b) a##\t#b", "P(,x) P(,)", "[x] .[]"},
		{"P(a, b) #a##b", "P(x,) P(,)", "[x] .[]"},
		{"P(a, b, c) #a##b##c", "P(x,,1)", errLayout},
		{"P(a) Q(a)\nQ(a) 1##a", "P(__LINE__)", errLayout},
		{"P(a) Q(a)\nQ(a) 1##a", "P(2 __LINE__)", "12 .<__LINE__>"},
		{"P(a) Q(a)\nQ(a) a##1", "P(__LINE__)", errLayout},
		{"P(a) Q(a)\nQ(a) a##1", "P(__LINE__ 2)", "<__LINE__> .21"},
		{"P(a) Q(#a)\nQ(a) a##1", "P(x)", errLayout},
		{"P(a) Q(#a)\nQ(a) a##a", "P(x)", errLayout},
		{"P(a) Q(a)\nQ(a) +##a", "P(__LINE__)", errLayout},

		// What is pasted is not a sign of the body, but one of the list.
		{"C(a, b) a##b\nX C(#,#) 1", "X", "## .1"},
		{"C(a, b) 1 a##b 2", "C(#,#) C(%:,%:)", "1 .## .2 .1 .%:%: .2"},
		{"C(a, b) a##b\nXY 1", "C(X,Y)", "1"},
		{"C(a, b) a##b\nCC 1", "C(C,) C(,C) C(C,C) C(C,)(1,2)", "C .C .1 .C ( 1 , 2 )"},
		{"C(a, b) a##b\nF(a) <a>", "C(F,F)(1) C(,F)(1) C(,F)", "FF ( 1 ) .< 1 > .F"},
	} {
		holds(t, c.macros, c.text, c.want)
	}
}

func TestPastedTokensHaveTheirFields(t *testing.T) {
	defs := defined(t, "C(a, b) a##b")
	for _, c := range []struct {
		a, b string
		want api.PTok
	}{
		{"x", "1", api.PTok{Kind: api.Word, Text: "x1"}},
		{"1", "x", api.PTok{Kind: api.Number, Text: "1x"}},
		{"-", ">", api.PTok{Kind: api.Punct, Text: "->"}},
		{"L", "'a'", api.PTok{Kind: api.Chars, Text: "L'a'"}},
		{"L", "\"a\"", api.PTok{Kind: api.String, Text: "L\"a\""}},
		{".", "1", api.PTok{Kind: api.Number, Text: ".1"}},
	} {
		for _, space := range []bool{false, true} {
			l := list(t, "+ C("+c.a+","+c.b+")")
			l[1].Space = space
			for i := range l {
				l[i].Parts = []string{"p"}
			}
			l[3].Space, l[5].Space = true, true
			want := c.want
			want.Space = space
			if got, e := expand.Expand(defs, l, 2); e != api.OK || len(got) != 2 || shown(got[1:]) != shown([]api.PTok{want}) {
				t.Errorf("%s and %s: %s, %v, not %s", c.a, c.b, shown(got), e, shown([]api.PTok{want}))
			}
		}
	}
}

func TestPastedKinds(t *testing.T) {
	// The kinds of what is pasted do not count, but for Line and Made; the text may be anything.
	defs := defined(t, "C(a, b) a##b")
	for kind := -1; kind < 13; kind++ {
		for _, text := range []string{"x", "1", "", " ", "\n", "/", "<", "\\", "'", "\xe9", "a b", "/**/", "//"} {
			for _, other := range []string{"y", "", "\n", "*", "/", ">", " "} {
				l := list(t, "C(1,2)")
				l[2], l[4] = api.PTok{Kind: kind, Text: text}, api.PTok{Kind: api.Word, Text: other}
				alsoWanted(t, defs, l)
				l[2], l[4] = api.PTok{Kind: api.Other, Text: other}, api.PTok{Kind: kind, Text: text}
				alsoWanted(t, defs, l)
			}
		}
	}
	for _, kind := range []int{api.Comment, api.Newline} {
		text := map[int]string{api.Comment: "/**/", api.Newline: "\n"}[kind]
		l := []api.PTok{{Kind: api.Word, Text: "C"}, {Kind: api.Punct, Text: "("}, {Kind: kind, Text: text}, {Kind: api.Punct, Text: ","}, {Kind: kind}, {Kind: api.Punct, Text: ")"}}
		if got, e := expand.Expand(defs, l, api.MaxSteps); e != api.ErrPaste || len(got) != 0 {
			t.Errorf("pasted to a token of the kind %d: %s, %v", kind, written(got), e)
		}
	}
}

// P6.1: Space

func TestSpace(t *testing.T) {
	for _, c := range []struct{ macros, text, want string }{
		// Of a replacement: the first token has that of the name.
		{"X a b", "X+X +  X", "a .b + a .b .+ .a .b"},
		{"X a+b", " X", ".a + b"},
		{"F(a) (a)", "F(1)F( 1) F(1)", "( 1 ) ( 1 ) .( 1 )"},
		{"F(a) a", "F( 1)F( 1 ) F(1)", "1 1 .1"},
		{"F(a) a", "F (1)+F  ( 1 )", "1 + 1"},
		{"X Y\nY Z\nZ 1", "+X+ X", "+ 1 + .1"},
		{"X #a\nF(a) #a", "+X+ X F(1)+F( 1)", "+ # a + .# a .[1] + [1]"},
		{"C(a, b) a##b", "+C(1,2)+ C(1,2)+C( 1 , 2 )", "+ 12 + .12 + 12"},
		{"C(a, b) a ## b", "+C(,2)+ C(,2)+C( , 2 )", "+ 2 + .2 + 2"},

		// An empty one leaves nothing of it.
		{"E", "+E+ E + E+", "+ + .+ +"},
		{"E\nX E 1 E 2 E", "+X+", "+ .1 .2 +"},
		{"F(a) a 1", "+F() F()+", "+ 1 .1 +"},
		{"F(a, b) a b", "+F(,1) F(,1)+", "+ 1 .1 +"},
		{"F(a, b) a+b", "+F(,1) F(,1)+", "+ + 1 .+ 1 +"},

		// Of an argument: the first token has that of the parameter.
		{"F(a) <a>", "F(1) F( 1) F( 1 2 ) F(1+ 2)", "< 1 > .< 1 > .< 1 .2 > .< 1 + .2 >"},
		{"F(a) < a >", "F(1) F( 1) F( 1 2 ) F(1+ 2)", "< .1 .> .< .1 .> .< .1 .2 .> .< .1 + .2 .>"},
		{"F(a) a a+a", "F(1) F( 1 2)", "1 .1 + 1 .1 .2 .1 .2 + 1 .2"},
		{"F(a) < a>\nX 1 2", "F(X) F( X)", "< .1 .2 > .< .1 .2 >"},
		{"F(a) <a >\nX 1 2", "F(X) F( X)", "< 1 .2 .> .< 1 .2 .>"},
		{"F(a) <a>\nE", "F(E 1) F(E) F( E +1)", "< 1 > .< > .< + 1 >"},
		{"V(...) < __VA_ARGS__>", "V( 1 , 2)", "< .1 , .2 >"},
		{"V(...) <__VA_ARGS__>", "V( 1 , 2)", "< 1 , .2 >"},
		{"V(...) < __VA_ARGS__>", "V( , 2)", "< ., .2 >"},
		{"V(...) <__VA_ARGS__>", "V( , 2)", "< , .2 >"},

		// Of one beside ##, too.
		{"C(a, b) < a##b>", "C(1 2,3 4) C( 1 2, 3 4) C(,3) C( , 3)", "< .1 .23 .4 > .< .1 .23 .4 > .< 3 > .< 3 >"},
		{"C(a, b) <a ## b>", "C(1 2,3 4) C( 1 2, 3 4) C(,3) C( , 3)", "< 1 .23 .4 > .< 1 .23 .4 > .< .3 > .< .3 >"},
		{"C(a, b) <a## b>", "C(1,2) C(,2) C(1,)", "< 12 > .< .2 > .< 1 >"},
		{"C(a, b, c) <a## b ##c>", "C(,,3) C(,2,3) C(,2,) C(1,,3)", "< 3 > .< .23 > .< .2 > .< 13 >"},
		{"C(a) < x ##a>", "C(1) C()", "< .x1 > .< .x >"},
		{"C(a) <a## x>", "C(1) C()", "< 1x > .< .x >"},
		{"C(a) <a##x>", "C( 1) C( )", "< 1x > .< x >"},
		{"C(a) <+a##x>", "C( 1 2) C( )", "< + 1 .2x > .< + x >"},

		// Of what is stringified: that of # .
		{"S(a) <#a # a +#a>", "S( 1) S(1)", "< [1] .[1] .+ [1] > .< [1] .[1] .+ [1] >"},
		{"S(a) < # a>", "S()", "< .[] >"},
		{"C(a, b) < a## #b> <a ##\t#b>", "C(,1)", "< .[1] > .< .[1] >"},
		{"C(a, b) <a##/**/#b>", "C(,1)", "< .[1] >"},
		{"C(a, b) <a##%:b>", "C(,1)", "< [1] >"},
	} {
		holds(t, c.macros, c.text, c.want)
	}
}

// P6.1: what tokens hide

func TestHidden(t *testing.T) {
	for _, c := range []struct{ macros, text, want string }{
		// A macro in its own body, two in each other's.
		{"F(a) F(a)", "F(1)", "F ( 1 )"},
		{"F(a) F (a)", "F(F(1))", "F .( F .( 1 ) )"},
		{"F(a) G(a)\nG(a) F(a)", "F(1) G(1)", "F ( 1 ) .G ( 1 )"},
		{"F(a) G a\nG F", "F(1) G(1)", "F .1 .F .1"},
		{"F() F\nX F()", "X F()()", "F .F ( )"},

		// One that comes back by an argument stays hidden.
		{"F(a) a\nX X", "F(X) F(F(X))", "X .X"},
		{"F(a) a\nX X 1", "F(X)", "X .1"},
		{"F(a) a(1)", "F(F)", "F ( 1 )"},
		{"F(a) a(1)\nG(a) a", "F(G) G(F)(2)", "1 .2 ( 1 )"},
		{"F(a) a(1)\nG(a) a(2)", "F(G) G(F)", "1 ( 2 ) .2 ( 1 )"},
		{"F(a) x##a a\nX X", "F(X)", "xX .X"},
		{"F(a) G(a)\nG(a) #a a\nX X", "F(X)", "[X] .X"},
		{"Y X\nX Y 1\nF(a) a", "F(X Y)", "X .1 .Y .1"},

		// A ) that hides less than the name.
		{"F(a) a F", "F(1)(2)(3)", "1 .F ( 2 ) ( 3 )"},
		{"F(a) a G\nG(a) a F", "F(1)(2)(3)(4)", "1 .2 .3 .4 .F"},
		{"f(a) a * g\ng(a) f(a)", "f(2)(9)(1)", "2 .* .9 .* .g ( 1 )"},
		{"F(a) a G(\nG(a) a F", "F(1) 2)(3)", errCall},
		{"X F\nF() X", "X() F()", "F .F"},
		{"X F(\nF(a) a X", "X 1) X 2)", "1 .F ( .2 .F ("},

		// A ) that hides something else.
		{"L F\nM (1)\nH(a) a\nF(a) a L", "H(L M)", "1 .F"},
		{"L F\nM (1)\nH(a) a\nF(a) a L M H", "H(L M)", "1 .F .( 1 ) .H"},

		// A ) that hides as much.
		{"X F()\nF() X", "X F()", "X .F ( )"},
		{"X F(1)\nF(a) a X", "X", "1 .X"},
		{"X F(Y)\nY X\nF(a) a", "X Y", "X .Y"},
		{"R F(1\nF(a) a R", "R) R)", "1 .F ( 1 .1 .F ( 1"},
		{"R )\nF(a) a", "F(R) F(1 R)", ") .1 .)"},

		// Of two that are pasted both hide it, or it is not hidden.
		{"XY C(X, Y)\nC(a, b) a##b", "XY", "XY"},
		{"XY C(X, Y) Z\nZ XY\nC(a, b) a##b", "XY", "XY .XY"},
		{"XY C(X, Y\nC(a, b) a##b", "XY)", "XY"},
		{"AB C(A,\nC(a, b) a##b", "AB B) B)", "C ( A , .B )"},
		{"AB C(A\nC(a, b) a##b", "AB , B)", "C ( A"},
		{"AB A C(\nC(a, b) a##b", "C(AB A,B)", "A .C ( .A .C ("},
		{"AB D(A)\nD(a) C(a, B)\nC(a, b) a##b", "AB", "AB"},
		{"AB C(A, B)\nC(a, b) a##b", "AB C(AB,)", "AB .C ( A , .B )"},
		{"X X1\nX1 C(X, 1)\nC(a, b) a##b", "X X1", "X1 .X1"},
	} {
		holds(t, c.macros, c.text, c.want)
	}
}

// P6.1: which error comes first

func TestFirstError(t *testing.T) {
	// W is a call that may not be, P what may not be pasted, L what hangs on the layout, Z without an end of steps.
	const errors = "\nN() 1\nC(a, b) a##b\nS(a) #a\nT(a) S(a)\nW N(2)\nP C(+, x)\nL T(__LINE__)\n"
	for _, c := range []struct{ macros, text, want string }{
		// As the expansion proceeds.
		{"", "W P L", errCall}, {"", "P W L", errPaste}, {"", "L P W", errLayout}, {"", "1 L P N(", errLayout},
		{"", "W N(", errCall}, {"", "C(-,x) N(", errPaste}, {"", "N( C(-,x)", errCall},
		{"X W P", "X", errCall}, {"X P W", "X L", errPaste}, {"X 1", "X L X W", errLayout},

		// ErrCall ahead of what is in the arguments.
		{"F(a) a", "F(W, 1)", errCall}, {"F(a) a", "F(P, 1)", errCall}, {"F(a) a", "F(P", errCall}, {"F(a, b) a", "F(L)", errCall}, {"V(a, ...) a", "V(P)", errCall},
		{"F() x", "F(P)", errCall},

		// Arguments in the order of the parameters, whatever the order in the body, __VA_ARGS__ last.
		{"F(a, b) b a", "F(W, P)", errCall}, {"F(a, b) b a", "F(P, W)", errPaste}, {"F(a, b) b a", "F(L, P)", errLayout},
		{"V(a, ...) __VA_ARGS__ a", "V(P, W)", errPaste}, {"V(a, ...) __VA_ARGS__ a", "V(L, P)", errLayout}, {"V(...) __VA_ARGS__", "V(1, L, P)", errLayout}, {"V(...) __VA_ARGS__", "V(1, P, L)", errPaste},
		{"F(a, b) b", "F(W, P)", errPaste}, {"F(a, b) #a b", "F(W, P)", errPaste}, {"F(a, b) x##a b", "F(W, P)", errPaste},

		// Arguments ahead of items and pastings.
		{"F(a) 1##+ a", "F(W)", errCall}, {"F(a) 1##+ a", "F(L)", errLayout}, {"F(a) 1##+ a", "F()", errPaste}, {"F(a) 1##+ #a", "F(L)", errPaste},
		{"F(a) G(a)\nG(a) #a P", "F(__LINE__)", errLayout}, {"F(a) G(a,P)\nG(a, b) #a b", "F(__LINE__)", errPaste}, {"F(a) G(a,1)\nG(a, b) #a b", "F(__LINE__)", errLayout},

		// Items and pastings from left to right, and an item ahead of its pasting.
		{"F(a) G(a)\nG(a) 1##+ #a", "F(__LINE__)", errPaste}, {"F(a) G(a)\nG(a) #a 1##+", "F(__LINE__)", errLayout},
		{"F(a) G(a)\nG(a) 1##a+##x", "F(__LINE__)", errLayout}, {"F(a) G(a)\nG(a) +##x 1##a", "F(__LINE__)", errPaste},
		{"F(a) x##+##\t#a", "F(1)", errPaste}, {"F(a) x##\t#a##+", "F(1)", errLayout},
		{"F(a, b) a##b##a", "F(+, x)", errPaste},
	} {
		holds(t, c.macros+errors, c.text, c.want)
	}
}

func TestErrorsAheadOfFuel(t *testing.T) {
	for _, c := range []struct {
		macros, text string
		steps        int
		want         api.Errno
	}{
		// With no step left a call, an item or a pasting is still wrong first.
		{"X 1", "X", 0, api.ErrFuel},
		{"X", "X", 0, api.ErrFuel},
		{"F() 1", "F(", 0, api.ErrCall},
		{"F() 1", "F(2)", 0, api.ErrCall},
		{"X +##x", "X", 0, api.ErrPaste},
		{"X 1 2 3 4 +##x", "X", 0, api.ErrPaste},
		{"X 1 2 3 4 +##x 5 6", "X", 3, api.ErrPaste},
		{"X 1 2 3 4 +##+ x", "X", 3, api.ErrFuel},
		{"X 1##2##3##4##+", "X", 0, api.ErrPaste},
		{"F(a, b) a##b", "F(1 2 3, 4 5 6)", 0, api.ErrFuel},
		{"F(a, b) a##b", "F(1 2 3, + 5 6)", 0, api.ErrPaste},
		{"F(a, b, c) a##b##c", "F(1 2 3, 4 5 6, 7)", 0, api.ErrFuel},
		{"F(a, b, c) a##b##c", "F(1 2 3, 4 5 6, +)", 0, api.ErrPaste},
		{"F(a, b, c) a##b##c", "F(1 2 +, , + x)", 0, api.ErrFuel},
		{"F(a, b, c) a##b##c", "F(1 2 +, , x +)", 0, api.ErrPaste},
		{"F(a, b, c) a##b c##x", "F(1 2 3, 4, +)", 0, api.ErrPaste},
		{"F(a, b, c) a##b c##x", "F(1 2 3, 4,)", 0, api.ErrFuel},
		{"F(a) 1 2 3 a##x", "F()", 0, api.ErrFuel},
		{"F(a) + a##x", "F()", 0, api.ErrFuel},
		{"F(a) + a##x", "F()", 1, api.ErrFuel},
		{"F(a) #a##x", "F(1)", 0, api.ErrLayout},
		{"F(a) 1 2 3 #a##x", "F(1)", 2, api.ErrLayout},
		{"F(a) 1 2 3 x##\t#a", "F(1)", 2, api.ErrLayout},
		{"G(a) 1 2 #a\nF(a) G(a)", "F(__LINE__)", 6, api.ErrLayout},
		{"G(a) 1 2 #a\nF(a) G(a)", "F(__LINE__)", 5, api.ErrLayout},
		{"G(a) 1 2 #a\nF(a) G(a)", "F(__LINE__)", 4, api.ErrFuel},

		// But what is in an argument takes its steps first.
		{"X 1\nF(a) a +##x", "F(X)", 2, api.ErrPaste},
		{"X 1\nF(a) a +##x", "F(X)", 1, api.ErrFuel},
		{"X 1\nF(a, b) b a", "F(X, F(1))", 1, api.ErrFuel},
		{"X 1\nF(a, b) b a", "F(X, F(1))", 2, api.ErrCall},
		{"X 1\nF(a) a", "F(X", 0, api.ErrCall},
		{"X 1\nN() 2\nF(a) a", "F(X N(2))", 1, api.ErrFuel},
		{"X 1\nN() 2\nF(a) a", "F(X N(2))", 2, api.ErrCall},
		{"X 1\nN() 2", "X N(2)", 2, api.ErrCall},
		{"X 1\nN() 2", "X N(2)", 1, api.ErrFuel},
	} {
		defs, l := defined(t, c.macros), list(t, c.text)
		if got, e := expand.Expand(defs, l, c.steps); e != c.want || len(got) != 0 {
			t.Errorf("%q, %s, %d steps: %s, %v, not %v", c.macros, c.text, c.steps, written(got), e, c.want)
		}
		alsoWanted(t, defs, l)
	}
}

// P6.1: steps

func TestStepsThatSuffice(t *testing.T) {
	for _, c := range []struct {
		macros, text string
		steps        int
	}{
		{"X 1", "a", 0},
		{"X 1", "", 0},
		{"F() 1", "F", 0},
		{"", "__LINE__", 0},
		{"X", "X", 1},
		{"X 1", "X", 2},
		{"X 1 2 3", "X", 4},
		{"X 1", "X X X", 6},
		{"X 1##2##3", "X", 2},
		{"X X", "X", 2},
		{"X Y\nY X", "X", 4},
		{"F() 1 2", "F()", 3},
		{"F(a) #a", "F(1 2 3)", 2},
		{"F(a) a", "F()", 1},
		{"F(a) a", "F(1 2 3)", 4},
		{"F(a) a a", "F(1 2 3)", 7},
		{"F(a) a##a", "F(1 2 3)", 6},
		{"F(a) x", "F(1 2 3)", 2},
		{"V(...) __VA_ARGS__", "V(1, 2, 3)", 6},

		// Within arguments, once for each that is expanded.
		{"X 1 2\nF(a) a", "F(X)", 6},
		{"X 1 2\nF(a) a a a", "F(X)", 10},
		{"X 1 2\nF(a) x", "F(X)", 2},
		{"X 1 2\nF(a) x##a", "F(X)", 2},
		{"X 1 2\nF(a) #a", "F(X)", 2},
		{"X 1 2\nF(a) a##a", "F(X)", 2},
		{"X 1 2\nXX 3\nF(a) a##a", "F(X)", 4},
		{"X\nF(a) a", "F(X X X)", 4},
		{"F(a) a", "F(F(F(1)))", 6},
		{"F(a) a", "F(F(F()))", 3},
		{"V(...) __VA_ARGS__\nX 1", "V(X, X)", 8},
		{"X 1 2\nF(a, b) a", "F(X, X)", 6},
	} {
		defs, l := defined(t, c.macros), list(t, c.text)
		for steps := range c.steps + 5 {
			got, e := expand.Expand(defs, l, steps)
			if steps < c.steps && (e != api.ErrFuel || len(got) != 0) || steps >= c.steps && e != api.OK {
				t.Errorf("%q, %s, %d steps, %d suffice: %s, %v", c.macros, c.text, steps, c.steps, written(got), e)
			}
		}
		alsoWanted(t, defs, l)
	}
}

func TestAllSteps(t *testing.T) {
	// Each X of these takes two steps, each E one.
	defs := defined(t, "X 1\nE\nF(a) a")
	for _, c := range []struct {
		text string
		n    int
		want api.Errno
	}{
		{"X ", api.MaxSteps / 2, api.OK}, {"X ", api.MaxSteps/2 + 1, api.ErrFuel},
		{"E ", api.MaxSteps, api.OK}, {"E ", api.MaxSteps + 1, api.ErrFuel},
		{"F(1) ", api.MaxSteps / 2, api.OK}, {"F(1) ", api.MaxSteps/2 + 1, api.ErrFuel},
		{"F(X) ", api.MaxSteps / 4, api.OK}, {"F(X) ", api.MaxSteps/4 + 1, api.ErrFuel},
	} {
		var l []api.PTok
		for one := list(t, c.text); len(l) < c.n*len(one); {
			l = append(l, one...)
		}
		got, e := expand.Expand(defs, l, api.MaxSteps)
		output := c.n
		if c.text == "E " || c.want != api.OK {
			output = 0
		}
		if e != c.want || len(got) != output {
			t.Errorf("%d times %s: %d tokens, %v", c.n, c.text, len(got), e)
		}
	}
}

// P6.2

// shares says whether two texts have bytes in the same place.
func shares(a, b string) bool {
	from, to := uintptr(unsafe.Pointer(unsafe.StringData(a))), uintptr(unsafe.Pointer(unsafe.StringData(b)))
	return from < to+uintptr(len(b)) && to < from+uintptr(len(a))
}

// manyCalls are macros and lists in which all that is replaced, and all that is not, occurs, and also what ends with an error.
func manyCalls(t *testing.T) (defs []api.Macro, lists [][]api.PTok) {
	t.Helper()
	defs = defined(t, "X Y 1 X\nY 'y'\nE\nF(a, b) a b a #b # a a##b x##b##a F\nS(a) #a #a %:a\nV(a, ...) __VA_ARGS__ #__VA_ARGS__ a ## __VA_ARGS__ a\nN() <__LINE__>")
	for _, text := range []string{
		"", "a", "X Y E", "a X X(", "F(1, 2)", "F(,)", "F(X Y, z) F(,w)", "S(a b(c, d) 'e') S()", "V(1, 2 , (3), X)", "V(,)", "N() __LINE__ N", "F", "F(x, F(y, z))", "S(S(1)) V(S(2),)",
		"F(1", "N(1)", "F(+ *, x)", "V(S(1), 2)", "F(__LINE__, 1)",
	} {
		lists = append(lists, list(t, text))
	}
	// Tokens of any kind, with Parts of their own.
	odd := list(t, "X a X S(b c) V(d, e, f) F(g, h)")
	for i := range odd {
		odd[i].Parts = []string{"part" + odd[i].Text, "", "part"}
	}
	odd = append(odd, api.PTok{Kind: api.Made, Parts: []string{"p", "q"}}, api.PTok{Kind: api.Line, Text: "line"}, api.PTok{Kind: -1, Text: "none", Parts: []string{}})
	return defs, append(lists, odd)
}

func TestArgumentsAreOnlyRead(t *testing.T) {
	defs, lists := manyCalls(t)
	told := func(l []api.Macro) string {
		var s strings.Builder
		for _, m := range l {
			fmt.Fprintf(&s, "%q %v %q %v %s;", m.Name, m.Func, m.Params[:cap(m.Params)], m.Variadic, shown(m.Body[:cap(m.Body)]))
		}
		return s.String()
	}
	// Behind the end of each list there is something still.
	for i := range defs {
		defs[i].Params = append(slices.Clone(defs[i].Params), "behind", "it")[:len(defs[i].Params)]
		defs[i].Body = append(slices.Clone(defs[i].Body), api.PTok{Kind: api.Word, Text: "behind", Space: true})[:len(defs[i].Body)]
	}
	defs = append(defs, api.Macro{Name: "F", Body: []api.PTok{{Text: "behind"}}})[:len(defs)]
	macros := told(defs[:cap(defs)][:len(defs)+1])
	for _, l := range lists {
		whole := append(slices.Clone(l), list(t, ") F(1, 2) X")...)
		before := shown(whole)
		for _, steps := range []int{0, 1, 7, 30, api.MaxSteps} {
			got, _ := expand.Expand(defs, whole[:len(l)], steps)
			for i := range got {
				for k := range got[i].Parts {
					got[i].Parts[k] = "written"
				}
				_ = append(got[i].Parts, "appended")
				got[i] = api.PTok{Text: "written"}
			}
			_ = append(got, api.PTok{Text: "appended"})
			if shown(whole) != before {
				t.Fatalf("%s: the list is changed, or handed out: %s", before, shown(whole))
			}
			if now := told(defs[:cap(defs)][:len(defs)+1]); now != macros {
				t.Fatalf("%s: the macros are changed, or handed out: %s", before, now)
			}
		}
	}
}

func TestResultsAreNew(t *testing.T) {
	defs, lists := manyCalls(t)
	for _, l := range lists {
		got, e := expand.Expand(defs, l, api.MaxSteps)
		again, _ := expand.Expand(defs, l, api.MaxSteps)
		want := shown(again)
		for i := range got {
			// What is written to one token is seen in no other one.
			others := shown(got[:i]) + shown(got[i+1:])
			for k := range got[i].Parts {
				got[i].Parts[k] = "written"
			}
			_ = append(got[i].Parts, "appended")
			if shown(got[:i])+shown(got[i+1:]) != others {
				t.Fatalf("%s: the token %d shares memory with another one", want, i)
			}
			got[i] = api.PTok{Text: "written"}
		}
		if shown(again) != want {
			t.Fatalf("%s: two results share memory: %s", want, shown(again))
		}
		if third, f := expand.Expand(defs, l, api.MaxSteps); f != e || shown(third) != want {
			t.Fatalf("%s: a result is kept: %s", want, shown(third))
		}
	}
}

func TestTextsAreNew(t *testing.T) {
	defs, lists := manyCalls(t)
	textsOf := func(l []api.PTok) (texts []string) {
		for _, p := range l {
			texts = append(append(texts, p.Text), p.Parts...)
		}
		return texts
	}
	given := []string{}
	for _, m := range defs {
		given = append(append(append(given, m.Name), m.Params...), textsOf(m.Body)...)
	}
	met := 0
	for _, l := range lists {
		got, _ := expand.Expand(defs, l, api.MaxSteps)
		texts := textsOf(got)
		for i, text := range texts {
			met++
			for _, other := range slices.Concat(given, textsOf(l), texts[:i]) {
				if shares(text, other) {
					t.Fatalf("%s: %q shares memory with %q", written(l), text, other)
				}
			}
		}
	}
	if met < 150 {
		t.Error("too few texts:", met)
	}
}

// P6.3

func TestOrderOfMacrosMakesNoDifference(t *testing.T) {
	t.Parallel()
	for _, c := range someMacros() {
		defs := defined(t, c.macros)
		orders := permutations(defs)
		everyText(strings.Split(c.parts, "|"), 3, func(text string) {
			for _, steps := range []int{0, 3, api.MaxSteps} {
				l := tokens(text)
				want, wanted := expand.Expand(defs, l, steps)
				for _, other := range orders {
					if got, e := expand.Expand(other, l, steps); e != wanted || shown(got) != shown(want) {
						t.Fatalf("%+v, %s: %s, %v, not %s, %v", other, text, written(got), e, written(want), wanted)
					}
				}
			}
		})
	}
}

// permutations are a list in all orders.
func permutations(l []api.Macro) [][]api.Macro {
	if len(l) < 2 {
		return [][]api.Macro{l}
	}
	var all [][]api.Macro
	for i := range l {
		for _, rest := range permutations(slices.Concat(l[:i], l[i+1:])) {
			all = append(all, append([]api.Macro{l[i]}, rest...))
		}
	}
	return all
}

func TestNamesOfParametersMakeNoDifference(t *testing.T) {
	t.Parallel()
	for _, c := range someMacros() {
		defs := defined(t, c.macros)
		for _, names := range [][]string{{"q1", "q2", "q3"}, {"X", "F", "V"}, {"defined", "_Pragma", "__LINE__"}, {"c", "a", "b"}} {
			other, may := renamed(defs, names)
			if !may {
				continue
			}
			everyText(strings.Split(c.parts, "|"), 3, func(text string) {
				l := tokens(text)
				for _, steps := range []int{4, api.MaxSteps} {
					want, wanted := expand.Expand(defs, l, steps)
					if got, e := expand.Expand(other, l, steps); e != wanted || shown(got) != shown(want) {
						t.Fatalf("%+v, %s: %s, %v, not %s, %v", other, text, written(got), e, written(want), wanted)
					}
				}
			})
		}
	}
}

// renamed are macros whose parameters have other names, unless one of these occurs in a body as something else.
func renamed(defs []api.Macro, names []string) (other []api.Macro, may bool) {
	for _, m := range defs {
		params := names[:len(m.Params)]
		body := slices.Clone(m.Body)
		for i, t := range body {
			n := slices.Index(m.Params, t.Text)
			switch {
			case n >= 0:
				body[i].Text = params[n]
			case slices.Contains(params, t.Text):
				return nil, false
			}
		}
		m.Params, m.Body = params, body
		other = append(other, m)
	}
	return other, true
}

func TestTwoLists(t *testing.T) {
	t.Parallel()
	for _, c := range someMacros() {
		t.Run(c.macros, func(t *testing.T) {
			t.Parallel()
			type result struct {
				l, yields []api.PTok
				taken     int
			}
			defs, results := defined(t, c.macros), []result{}
			everyText(strings.Split(c.parts, "|"), 3, func(text string) {
				l := tokens(text)
				if yields, taken, e := wantExpand(defs, l, api.MaxSteps); e == api.OK {
					results = append(results, result{l: l, yields: yields, taken: taken})
				}
			})
			// Not all pairs, but each list as a first one and as a second one.
			for i, a := range results {
				for k := i % 7; k < len(results); k += 7 {
					b := results[k]
					if len(b.l) > 0 && b.l[0].Kind == api.Punct && b.l[0].Text == "(" {
						continue
					}
					both, e := expand.Expand(defs, slices.Concat(a.l, b.l), a.taken+b.taken)
					if e != api.OK || shown(both) != shown(a.yields)+shown(b.yields) {
						t.Fatalf("%s, and then %s: %s, %v", written(a.l), written(b.l), written(both), e)
					}
				}
			}
		})
	}
}
