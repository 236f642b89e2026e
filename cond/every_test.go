package cond_test

import (
	"math/rand/v2"
	"strings"
	"testing"

	"reglet/api"
	"reglet/cond"
)

// everyList visits all lists of at most n of the tokens given.
func everyList(tokens []api.PTok, n int, visit func(l []api.PTok)) {
	var longer func(l []api.PTok)
	longer = func(l []api.PTok) {
		visit(l)
		if len(l) == n {
			return
		}
		for _, t := range tokens {
			longer(append(l, t))
		}
	}
	longer(make([]api.PTok, 0, n))
}

func TestEveryShortList(t *testing.T) {
	t.Parallel()
	for _, c := range []struct {
		tokens string
		n      int
		layout bool
	}{
		{"0 1 ? : ( )", 7, false},
		{"2 - ( ) * ?", 6, false},
		{"0 1u && || /", 7, false},
		{"1 -1u / << ? :", 6, false},
		{"! ~ - + 2 < ==", 6, false},
		{"1 2u 64 << >> - /", 6, false},
		{"7 - % / ! (", 6, false},
		{"x 3u | ^ & >= !=", 6, false},
		{"1 && || ? : / 0", 6, false},
		{"1 x 'a' 0u + ( ) ! ? : && , 1.0", 4, true},
		{"0 - ! + ( ) ? : || << , ##", 4, true},
	} {
		t.Run(c.tokens, func(t *testing.T) {
			t.Parallel()
			tokens := list(t, c.tokens)
			if c.layout {
				tokens = append(tokens, api.PTok{Kind: api.Line, Text: "__LINE__"}, api.PTok{Kind: api.Made, Parts: []string{"1"}})
			}
			fine := 0
			everyList(tokens, c.n, func(l []api.PTok) {
				if alsoWanted(t, l) == api.OK {
					fine++
				}
			})
			if fine < 30 {
				t.Error("too few lists are worth something:", fine)
			}
		})
	}
}

// grower makes expressions, the same ones each time.
type grower struct{ *rand.Rand }

// one is one of some texts.
func (g grower) one(texts string) string {
	l := strings.Fields(texts)
	return l[g.IntN(len(l))]
}

// constant is a constant or a word.
func (g grower) constant() string {
	return g.one("0 0 0 1 1 2 3 7 63 64 0u 1u 2u 5u 63u 64u 'a' '\\xff' L'\\xffffffff' x int 9223372036854775807 0x7fffffffffffffff 0x8000000000000000 18446744073709551615u 017 0x10")
}

// expression is one of at most some depth.
func (g grower) expression(depth int) string {
	if depth <= 0 {
		return g.constant()
	}
	switch g.IntN(9) {
	case 0:
		return g.constant()
	case 1:
		return "(" + g.expression(depth-1) + ")"
	case 2:
		return g.one("+ - ! ~") + " " + g.expression(depth-1)
	case 3:
		return g.expression(depth-1) + " ? " + g.expression(depth-1) + " : " + g.expression(depth-1)
	}
	return g.expression(depth-1) + " " + g.one("|| && | ^ & == != < > <= >= << >> + - * / % || && << / %") + " " + g.expression(depth-1)
}

// list are the tokens of an expression that is not too long for the second way.
func (g grower) list(t *testing.T) []api.PTok {
	for {
		if l := list(t, g.expression(1+g.IntN(5))); len(l) < 40 {
			return l
		}
	}
}

func TestManyExpressions(t *testing.T) {
	t.Parallel()
	g := grower{rand.New(rand.NewPCG(7, 1))}
	count := map[api.Errno]int{}
	for range 8000 {
		count[alsoWanted(t, g.list(t))]++
	}
	for _, e := range []api.Errno{api.OK, api.ErrZero, api.ErrCond} {
		if count[e] < 500 {
			t.Error("too few:", e, count[e])
		}
	}
}

// A token more or less, or another one, mostly makes an expression none.
func TestManyListsBesideExpressions(t *testing.T) {
	t.Parallel()
	g := grower{rand.New(rand.NewPCG(7, 2))}
	others := list(t, "0 1u 'a' x + - ! ~ * / << < == & ^ | && || ? : ( ) ( ) ? : , [ 1.0 \"a\"")
	others = append(others, api.PTok{Kind: api.Line}, api.PTok{Kind: api.Made})
	count := map[api.Errno]int{}
	for range 8000 {
		l := g.list(t)
		at, other := g.IntN(len(l)), others[g.IntN(len(others))]
		switch g.IntN(3) {
		case 0:
			l = append(l[:at], l[at+1:]...)
		case 1:
			l[at] = other
		case 2:
			l = append(l[:at+1], l[at:]...)
			l[at] = other
		}
		count[alsoWanted(t, l)]++
	}
	if count[api.OK] < 300 || count[api.ErrCond] < 1000 || count[api.ErrLayout] < 100 {
		t.Error("too few:", count)
	}
}

// P7.3

// answer is all that Value answers.
type answer struct {
	worth
	e api.Errno
}

// answerOf is what Value answers for a text.
func answerOf(t *testing.T, s string) answer {
	t.Helper()
	v, u, e := cond.Value(list(t, s))
	return answer{worth{v, u}, e}
}

// truth is the answer for what holds, or does not.
func truth(is bool) answer {
	if is {
		return answer{worth: worth{1, signed}}
	}
	return answer{}
}

// pairs visits pairs of expressions with what they are worth, if no error occurs in the first one.
func pairs(t *testing.T, visit func(a, b string, left, right answer)) {
	t.Helper()
	g := grower{rand.New(rand.NewPCG(7, 3))}
	fine, wrong := 0, 0
	for range 6000 {
		a, b := "("+g.expression(g.IntN(4))+")", "("+g.expression(g.IntN(4))+")"
		left, right := answerOf(t, a), answerOf(t, b)
		switch {
		case left.e != api.OK:
			continue
		case right.e != api.OK:
			wrong++
		default:
			fine++
		}
		visit(a, b, left, right)
	}
	if fine < 2000 || wrong < 300 {
		t.Error("too few pairs:", fine, wrong)
	}
}

// wantAnswer says what is answered for a text.
func wantAnswer(t *testing.T, s string, want answer) {
	t.Helper()
	if got := answerOf(t, s); got != want {
		t.Errorf("%s: %v, not %v", s, got, want)
	}
}

func TestNotNegates(t *testing.T) {
	pairs(t, func(a, _ string, left, _ answer) {
		wantAnswer(t, "!"+a, truth(left.value == 0))
		wantAnswer(t, "!!"+a, truth(left.value != 0))
		h, _ := cond.Holds(list(t, a))
		if no, e := cond.Holds(list(t, "!"+a)); no == h || e != api.OK {
			t.Errorf("%s and ! of it: %v, %v, %v", a, h, no, e)
		}
	})
}

func TestAndAndOrAreWhatTheySay(t *testing.T) {
	pairs(t, func(a, b string, left, right answer) {
		and, or := truth(left.value != 0 && right.value != 0), truth(left.value != 0 || right.value != 0)
		if right.e != api.OK && left.value != 0 {
			and = right
		}
		if right.e != api.OK && left.value == 0 {
			or = right
		}
		wantAnswer(t, a+" && "+b, and)
		wantAnswer(t, a+" || "+b, or)
		// As it is said of what is and what is not.
		if right.e == api.OK {
			wantAnswer(t, "!("+a+" && "+b+") == (!"+a+" || !"+b+")", truth(true))
			wantAnswer(t, "!("+a+" || "+b+") == (!"+a+" && !"+b+")", truth(true))
		}
	})
}

func TestAChoiceIsWorthWhatItsPartIs(t *testing.T) {
	pairs(t, func(a, b string, left, right answer) {
		for asked, holds := range map[string]bool{"1": true, "-1": true, "2u": true, "0": false, "0u": false, "x": false} {
			chosen, other := left, right
			if !holds {
				chosen, other = right, left
			}
			got := answerOf(t, asked+" ? "+a+" : "+b)
			if got.value != chosen.value || got.e != chosen.e {
				t.Errorf("%s ? %s : %s: %v, not %v", asked, a, b, got, chosen)
			}
			if got.e == api.OK && other.e == api.OK && got.unsigned != (chosen.unsigned || other.unsigned) {
				t.Errorf("%s ? %s : %s: %v", asked, a, b, got)
			}
		}
	})
}

func TestADivisionAndItsRestMakeTheWhole(t *testing.T) {
	check := func(a, b string, left, right answer) {
		want := answer{worth: worth{left.value, left.unsigned || right.unsigned}}
		switch {
		case right.e != api.OK:
			want = right
		case right.value == 0:
			want = answer{e: api.ErrZero}
		}
		wantAnswer(t, a+" / "+b+" * "+b+" + "+a+" % "+b, want)
	}
	pairs(t, check)
	for a, left := range numbers() {
		for b, right := range numbers() {
			check("("+a+")", "("+b+")", answer{worth: left}, answer{worth: right})
		}
	}
}
