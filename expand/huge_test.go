package expand_test

import (
	"slices"
	"strconv"
	"strings"
	"testing"

	"reglet/api"
	"reglet/expand"
)

// repeated is a list, n times.
func repeated(l []api.PTok, n int) []api.PTok {
	many := make([]api.PTok, 0, n*len(l))
	for range n {
		many = append(many, l...)
	}
	return many
}

// expands holds what Expand answers, with as many steps as there may be, against what is wanted: so many tokens that are all alike, or an error.
func expands(t *testing.T, defs []api.Macro, l []api.PTok, tokens int, each string, want api.Errno) {
	t.Helper()
	got, e := expand.Expand(defs, l, api.MaxSteps)
	if e != want || len(got) != tokens {
		t.Fatalf("%d tokens, %v, not %d, %v", len(got), e, tokens, want)
	}
	for _, p := range got {
		if p.Text != each {
			t.Fatalf("%q, not %q", p.Text, each)
		}
	}
}

func TestCallsWithinCalls(t *testing.T) {
	for _, c := range []struct {
		macros, opening, inside, closing string
		n                                int
		want                             api.Errno
	}{
		{"F(a) a", "F(", "", ")", api.MaxSteps, api.OK},
		{"F(a) a", "F(", "", ")", api.MaxSteps + 1, api.ErrFuel},
		{"F(a) a", "F(", "F", ")", api.MaxSteps / 2, api.OK},
		{"F(a) a", "F(", "F", ")", api.MaxSteps/2 + 1, api.ErrFuel},
		{"F(a) a", "F(", "F (", ")", 40000, api.ErrCall},
		{"F(a) F", "F(", "1", ")", 200000, api.OK},
		{"V(a, ...) __VA_ARGS__", "V(1 2,", "", ")", api.MaxSteps, api.OK},
		{"V(a, ...) __VA_ARGS__", "V(,", "1,2", ")", api.MaxSteps, api.ErrFuel},
		{"V(...) __VA_ARGS__", "V(1,2,", "3", ")", 40000, api.ErrFuel},
		{"V(...) __VA_ARGS__ x##__VA_ARGS__ #__VA_ARGS__", "V(1,2,", "3", ")", 30000, api.ErrFuel},
		{"D(a)\nN(a) D(#a) a", "N(", "", ")", 1000, api.OK},
		{"D(a)\nN(a) D(x##a) a", "N(", "", ")", 100, api.OK},
		{"D(a)\nN(a) D(x##a) a", "N(", "", ")", 20000, api.ErrFuel},
	} {
		l := slices.Concat(repeated(list(t, c.opening), c.n), list(t, c.inside), repeated(list(t, c.closing), c.n))
		output := 0
		if c.want == api.OK && c.inside != "" {
			output = 1
		}
		expands(t, defined(t, c.macros), l, output, "F", c.want)
	}
}

func TestLongLists(t *testing.T) {
	n := 1 << 17
	ones := repeated(list(t, "1"), n)
	expands(t, nil, ones, n, "1", api.OK)
	call := slices.Concat(list(t, "F("), ones, list(t, ")"))
	for _, c := range []struct {
		body, text string
		tokens     int
		want       api.Errno
	}{
		{"", "", 0, api.OK},
		{"x", "x", 1, api.OK},
		{"#a", "", 1, api.OK},

		// However often it is asked for, what is too long is not put together.
		{"a", "", 0, api.ErrFuel},
		{strings.Repeat("a ", 30000), "", 0, api.ErrFuel},
		{strings.Repeat("a ##", 10000) + "a", "", 0, api.ErrFuel},
		{strings.Repeat("a ", 30000) + "1##+", "", 0, api.ErrPaste},
		{strings.Repeat("#a ", 20000) + "a", "", 0, api.ErrFuel},
		{strings.Repeat("#a ", 20) + "##a", "", 0, api.ErrLayout},
	} {
		expands(t, defined(t, "F(a) "+c.body), call, c.tokens, c.text, c.want)
	}
	for _, text := range []string{"(", ")", ",", "F"} {
		expands(t, defined(t, "F() 1"), repeated(list(t, text), n), n, text, api.OK)
	}
}

func TestManyMacros(t *testing.T) {
	name := func(i int) api.PTok { return api.PTok{Kind: api.Word, Text: "X" + strconv.Itoa(i)} }
	var defs []api.Macro
	for i := range api.MaxSteps / 2 {
		defs = append(defs, api.Macro{Name: name(i).Text, Body: []api.PTok{name(i + 1)}})
	}
	last := name(api.MaxSteps / 2).Text
	expands(t, defs, []api.PTok{name(0)}, 1, last, api.OK)
	expands(t, defs, []api.PTok{name(1), name(0)}, 0, "", api.ErrFuel)

	// In a ring each one is hidden, in the end.
	defs[20000].Body[0] = name(0)
	expands(t, defs, []api.PTok{name(0), name(0)}, 0, "", api.ErrFuel)
	expands(t, defs, []api.PTok{name(7)}, 1, "X7", api.OK)
	expands(t, defs, []api.PTok{name(20000)}, 1, "X20000", api.OK)

	// Also where one that was replaced early stands in the replacement of one that was replaced late.
	defs, l := defined(t, "A Z\nZ() A()"), list(t, "A")
	for i := range 200 {
		defs, l = append(defs, api.Macro{Name: name(i).Text}), append(l, name(i))
	}
	if got, e := expand.Expand(defs, append(l, list(t, "Z()")...), api.MaxSteps); e != api.OK || written(got) != "Z Z ( )" {
		t.Errorf("%s, %v", written(got), e)
	}
}

func TestLongPastings(t *testing.T) {
	body := strings.Repeat("a##", 20000) + "a"
	expands(t, defined(t, "F(a) "+body), list(t, "F(x)"), 1, strings.Repeat("x", 20001), api.OK)
	expands(t, defined(t, "F(a) "+body), list(t, "F(.)"), 0, "", api.ErrPaste)
	expands(t, defined(t, "F(a) "+body), list(t, "F()"), 0, "", api.OK)
}

func TestHugeMacros(t *testing.T) {
	var params []string
	var body []api.PTok
	for i := range 4000 {
		params = append(params, "p"+strconv.Itoa(i))
		body = append(body, api.PTok{Kind: api.Word, Text: params[i], Space: i > 0})
	}
	defs := []api.Macro{{Name: "F", Func: true, Params: params, Body: body}}
	commas := func(n int) []api.PTok { return slices.Concat(list(t, "F("), repeated(list(t, "1,"), n), list(t, "1)")) }
	expands(t, defs, commas(3999), 4000, "1", api.OK)
	expands(t, defs, commas(3998), 0, "", api.ErrCall)
	expands(t, defs, commas(4000), 0, "", api.ErrCall)
	defs[0].Variadic = true
	expands(t, defs, commas(3999), 0, "", api.ErrCall)
	expands(t, defs, commas(20000), 4000, "1", api.OK)
}
