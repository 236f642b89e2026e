package expand_test

import (
	"slices"
	"strings"
	"testing"

	"reglet/api"
)

// letters are the tokens that the letters of a text stand for; a blank sets the Space of the one behind it.
var letters = map[rune]api.PTok{
	'(': {Kind: api.Punct, Text: "("},
	')': {Kind: api.Punct, Text: ")"},
	',': {Kind: api.Punct, Text: ","},
	'#': {Kind: api.Punct, Text: "#"},
	'%': {Kind: api.Punct, Text: "%:"},
	'p': {Kind: api.Punct, Text: "##"},
	'q': {Kind: api.Punct, Text: "%:%:"},
	'+': {Kind: api.Punct, Text: "+"},
	'1': {Kind: api.Number, Text: "1"},
	'@': {Kind: api.Word, Text: "AB"},
	'l': {Kind: api.Word, Text: "__LINE__"},
	'v': {Kind: api.Word, Text: "__VA_ARGS__"},
	'd': {Kind: api.Made, Parts: []string{"d"}},
	'n': {Kind: api.Line, Text: "n"},
}

// tokens are the tokens of a text of letters; a letter that stands for no other token is a Word.
func tokens(text string) []api.PTok {
	var l []api.PTok
	space := false
	for _, letter := range text {
		if letter == ' ' {
			space = true
			continue
		}
		t, is := letters[letter]
		if !is {
			t = api.PTok{Kind: api.Word, Text: string(letter)}
		}
		t.Space, space = space, false
		l = append(l, t)
	}
	return l
}

// everyText visits all texts of at most n of the parts given.
func everyText(parts []string, n int, visit func(s string)) {
	level := []string{""}
	for range n + 1 {
		var longer []string
		for _, s := range level {
			visit(s)
			for _, p := range parts {
				longer = append(longer, s+p)
			}
		}
		level = longer
	}
}

// someMacros are macros that replace each other, and letters of lists in which they may do so.
func someMacros() []struct {
	macros, parts string
	n             int
} {
	return []struct {
		macros, parts string
		n             int
	}{
		{"X X Y\nY X 1\nE", "X| X|Y| Y|E| E|1| l", 4},
		{"X Y Z\nY Z X\nZ X Y", "X| Y|Z|x", 4},
		{"F(a) a F\nO F\nL (\nR )", "F|O| L|R|(|)| 1", 5},
		{"F(a) G(a\nG(a) a F(\nR )", "F|G| G|R|(|)", 5},
		{"F(a) a * G\nG(a) F(a)", "F|G|(|)| 1", 6},
		{"F(a) [a+ a]\nX X F\nE", "F|X|(|)|E| 1", 5},
		{"F(a, b) < b a>\nX F\nC ,", "F|X|C|(|)|,| 1", 5},
		{"F() x\nG(a) a()\nH() G(F", "F|G|H|(|)", 6},
		{"V(...) <__VA_ARGS__>\nX V\nE", "V|X|E|(|)|,| ,", 5},
		{"V(a, ...) __VA_ARGS__-a #__VA_ARGS__ #a\nX V(1", "V|X|(|)|,| ,| l", 5},
		{"V(...) x##__VA_ARGS__##y __VA_ARGS__\nX X,", "V|X|(|)|,| ,|1", 5},
		{"V(...) W(__VA_ARGS__)\nW(a, ...) a V(__VA_ARGS__", "V|W|(|)|,", 6},
		{"C(a, b) a##b\nD(a) C(a, 1)", "C|D|(|)|,|x| l", 5},
		{"C(a) a##1 1##a a\nX1 X\nX Z", "C|(|)|X| 1|n|d", 5},
		{"C(a, b, c) a##b##c", "C(|,|)| x|1", 6},
		{"A C(A,\nC(a, b) a##b\nAB A", "A|@|C|(|)|,|B", 5},
		{"S(a) #a\nT(a) S(a) a", "S|T|(|)| x|l|d", 5},
		{"Q(a) a R(a\nR(a) a##Q(#a) a\nX Q(X", "Q|R|X|(|)|1", 5},
	}
}

func TestEveryShortList(t *testing.T) {
	t.Parallel()
	for _, c := range someMacros() {
		t.Run(c.macros, func(t *testing.T) {
			t.Parallel()
			defs, expanded := defined(t, c.macros), 0
			everyText(strings.Split(c.parts, "|"), c.n, func(text string) {
				if _, e := alsoWanted(t, defs, tokens(text)); e == api.OK {
					expanded++
				}
			})
			if expanded < 300 {
				t.Error("too few lists are expanded:", expanded)
			}
		})
	}
}

func TestEveryShortBody(t *testing.T) {
	t.Parallel()
	parts := strings.Split("a| a|__VA_ARGS__| b|#| #|##| ##|x|F| F(|,| )|X| E|+", "|")
	for head, lists := range map[string][]string{
		"F ":        {"F", "F(1)", "F F(F)"},
		"F() ":      {"F()F", "F(1)", "F", "F(X"},
		"F(...) ":   {"F()", "F(1 , x)F", "F( l,X X)", "F(1 +,,+ 1)", "F(F(1,2),)", "F(n,d)"},
		"F(a,b) ":   {"F(1,x)F", "F(,)", "F( x,) 1", "F(x 1,+ y)", "F(1 +,+ 1)", "F(X,l)", "F( l,X X)", "F(F(1,2),)", "F(F,(1,2))(3,4)", "F(n,d)", "F(1)"},
		"F(a,...) ": {"F(1)", "F(,)", "F(1,x , y)F", "F(X,l)", "F( l,X, X)", "F(F(1,2),F,3)", "F(n,d)", "F(+,+ 1)"},
	} {
		t.Run(head, func(t *testing.T) {
			t.Parallel()
			bodies := 0
			everyText(parts, 3, func(body string) {
				defs, may := mayDefine(t, head+body, "X X 1 Z", "E")
				if !may {
					return
				}
				bodies++
				for _, text := range lists {
					alsoWanted(t, defs, tokens(text))
				}
			})
			if bodies < 800 {
				t.Error("too few bodies:", bodies)
			}
		})
	}
}

func TestEveryBodyOfPastings(t *testing.T) {
	t.Parallel()
	bodies := []string{"a", " b", "x"}
	for range 3 {
		for _, body := range slices.Clone(bodies) {
			for _, item := range []string{"##a", "##b", "## b", "## ##a", "##x", " a", " b"} {
				bodies = append(bodies, body+item)
			}
		}
		slices.Sort(bodies)
		bodies = slices.Compact(bodies)
	}
	for _, body := range bodies {
		defs := defined(t, "F(a,b) "+body)
		for _, text := range []string{"F(,)", "F(1,)", "F(1 2, 3)", "F(1 x,)x", "F(, + -)"} {
			alsoWanted(t, defs, tokens(text))
		}
	}
	if len(bodies) < 1000 {
		t.Error("too few bodies:", len(bodies))
	}
}

func TestEveryPairOfBodies(t *testing.T) {
	t.Parallel()
	bodies := strings.Split("1|F|G|F(|G(|F(a)|G(a)|a|a F|F a|a G(a)|G(F)|F(G)(a)|#a|a##1|F##a|G(a##1)|a##a F|G(a) #a|)|a)|(a|F(a", "|")
	for _, f := range bodies {
		for _, g := range bodies {
			for _, heads := range [][2]string{{"F(a) ", "G(a) "}, {"F(a) ", "G "}, {"F ", "G(...) "}} {
				g := g
				if heads[1] == "G(...) " {
					g = strings.ReplaceAll(g, "a", "__VA_ARGS__")
				}
				defs, may := mayDefine(t, heads[0]+f, heads[1]+g)
				if !may {
					continue
				}
				for _, text := range []string{"F", "F(1)", "F(G)", "G(F)(1)", "F(F)(G)(1)", "F(G(F(1)))", "G(1)(2)(3)", "F((G)G)", "F(1))G 1)", "F)F)G)", "F(l)", "G( F( l))", "F(G 1)(1)", "G(F(G)(F))"} {
					alsoWanted(t, defs, tokens(text))
				}
			}
		}
	}
}
