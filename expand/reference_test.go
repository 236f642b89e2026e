package expand_test

import (
	"maps"
	"slices"
	"strings"

	"reglet/api"
	"reglet/scan"
)

// What the chapter says is said here a second time, with lists that are copied wherever they are needed and sets of names as they are; an error ends all of it by a panic.

// marked is a token with the names that it hides.
type marked struct {
	tok   api.PTok
	hides map[string]int
}

// reference is an expansion: what is defined, how many steps it may take, and how many it has taken.
type reference struct {
	macros []api.Macro
	steps  int
	taken  int
}

// wantExpand is what Expand should answer for macros that have lines, and how many steps were taken up to there.
func wantExpand(defs []api.Macro, l []api.PTok, steps int) (want []api.PTok, taken int, e api.Errno) {
	r := &reference{macros: defs, steps: steps}
	defer func() {
		taken = r.taken
		switch p := recover().(type) {
		case nil:
		case api.Errno:
			want, e = nil, p
		default:
			panic(p)
		}
	}()
	var fresh []marked
	for _, t := range l {
		fresh = append(fresh, marked{tok: t})
	}
	for _, m := range r.expand(fresh) {
		want = append(want, m.tok)
	}
	return want, 0, api.OK
}

// isSign says whether a token is a Punct with one of these texts.
func isSign(m marked, texts ...string) bool {
	return m.tok.Kind == api.Punct && slices.Contains(texts, m.tok.Text)
}

// macroOf is the macro with the name that a token is, unless the token hides it.
func (r *reference) macroOf(m marked) (api.Macro, bool) {
	if _, hidden := m.hides[m.tok.Text]; hidden || m.tok.Kind != api.Word {
		return api.Macro{}, false
	}
	for _, d := range r.macros {
		if d.Name == m.tok.Text {
			return d, true
		}
	}
	return api.Macro{}, false
}

// expand is a list, expanded.
func (r *reference) expand(l []marked) (output []marked) {
	for len(l) > 0 {
		first := l[0]
		d, is := r.macroOf(first)
		switch {
		case isLine(first):
			first.tok.Kind = api.Line
			fallthrough
		case !is, d.Func && (len(l) == 1 || !isSign(l[1], "(")):
			output, l = append(output, first), l[1:]
			continue
		}
		hides, behind := first.hides, l[1:]
		var arguments [][]marked
		if d.Func {
			end := endOfCall(l)
			arguments = argumentsOf(d, l[2:end])
			hides, behind = bothHide(first, l[end]), l[end+1:]
		}
		body := r.fill(d, arguments)
		r.taken += 1 + len(body)
		if r.taken > r.steps {
			panic(api.ErrFuel)
		}
		for i := range body {
			more := map[string]int{d.Name: 1}
			maps.Copy(more, hides)
			maps.Copy(more, body[i].hides)
			body[i].hides = more
		}
		if len(body) > 0 {
			body[0].tok.Space = first.tok.Space
		}
		l = slices.Concat(body, behind)
	}
	return output
}

// isLine says whether a token is the Word __LINE__.
func isLine(m marked) bool { return m.tok.Kind == api.Word && m.tok.Text == "__LINE__" }

// endOfCall is where the ) of the call is with which a list begins.
func endOfCall(l []marked) int {
	depth := 0
	for i, m := range l {
		if isSign(m, "(") {
			depth++
		} else if isSign(m, ")") {
			if depth--; depth == 0 {
				return i
			}
		}
	}
	panic(api.ErrCall)
}

// argumentsOf are the arguments of a call, one for each parameter, and one for the ... .
func argumentsOf(d api.Macro, inside []marked) [][]marked {
	depth, from, pieces := 0, 0, [][]marked{}
	for i, m := range inside {
		switch {
		case isSign(m, "("):
			depth++
		case isSign(m, ")"):
			depth--
		case isSign(m, ",") && depth == 0:
			pieces = append(pieces, inside[from:i])
			from = i + 1
		}
	}
	pieces = append(pieces, inside[from:])
	n := len(d.Params)
	if n == 0 && !d.Variadic && len(inside) == 0 {
		return nil
	}
	if !d.Variadic && len(pieces) != n || d.Variadic && len(pieces) < n+1 {
		panic(api.ErrCall)
	}
	if d.Variadic {
		var all []marked
		for i, p := range pieces[n:] {
			if i > 0 {
				all = append(all, marked{tok: api.PTok{Kind: api.Punct, Text: ","}})
			}
			all = append(all, p...)
		}
		pieces = append(pieces[:n:n], all)
	}
	return pieces
}

// bothHide are the names that two tokens hide.
func bothHide(a, b marked) map[string]int {
	both := map[string]int{}
	for name := range a.hides {
		if _, is := b.hides[name]; is {
			both[name] = 1
		}
	}
	return both
}

// fill is the body of a macro, filled: what stands between two places without ## is put together first.
func (r *reference) fill(d api.Macro, arguments [][]marked) []marked {
	expanded := make([][]marked, len(arguments))
	names := slices.Clone(d.Params)
	if d.Variadic {
		names = append(names, "__VA_ARGS__")
	}
	sign := func(i int, texts ...string) bool {
		return i >= 0 && i < len(d.Body) && isSign(marked{tok: d.Body[i]}, texts...)
	}
	for n := range arguments {
		for i, t := range d.Body {
			if t.Kind == api.Word && t.Text == names[n] && !sign(i-1, "#", "%:", "##", "%:%:") && !sign(i+1, "##", "%:%:") {
				expanded[n] = r.expand(arguments[n])
				break
			}
		}
	}
	yields := func(i int) (item []marked, length int) {
		t := d.Body[i]
		if d.Func && sign(i, "#", "%:") {
			return []marked{stringified(t, arguments[slices.Index(names, d.Body[i+1].Text)])}, 2
		}
		n := slices.Index(names, t.Text)
		if n < 0 || t.Kind != api.Word {
			return []marked{{tok: t}}, 1
		}
		if sign(i-1, "##", "%:%:") || sign(i+1, "##", "%:%:") {
			item = slices.Clone(arguments[n])
		} else {
			item = slices.Clone(expanded[n])
		}
		if len(item) > 0 {
			item[0].tok.Space = t.Space
		}
		return item, 1
	}
	var body []marked
	for i := 0; i < len(d.Body); {
		group, length := yields(i)
		i += length
		for sign(i, "##", "%:%:") {
			for sign(i, "##", "%:%:") {
				i++
			}
			item, length := yields(i)
			i += length
			group = pasted(group, item)
		}
		body = append(body, group...)
	}
	return body
}

// stringified is what # makes of an argument.
func stringified(sign api.PTok, argument []marked) marked {
	made := api.PTok{Kind: api.Made, Space: sign.Space}
	for _, m := range argument {
		if m.tok.Kind == api.Line || m.tok.Kind == api.Made {
			panic(api.ErrLayout)
		}
		made.Parts = append(made.Parts, m.tok.Text)
	}
	return marked{tok: made}
}

// pasted is what ## makes of what stands on its sides.
func pasted(a, b []marked) []marked {
	if len(a) == 0 || len(b) == 0 {
		return slices.Concat(a, b)
	}
	last, first := a[len(a)-1], b[0]
	for _, m := range []marked{last, first} {
		if m.tok.Kind == api.Line || m.tok.Kind == api.Made {
			panic(api.ErrLayout)
		}
	}
	text := strings.Join([]string{last.tok.Text, first.tok.Text}, "")
	kind, is := scan.One(text)
	if !is || kind > api.Other {
		panic(api.ErrPaste)
	}
	both := marked{tok: api.PTok{Kind: kind, Text: text, Space: last.tok.Space}, hides: bothHide(last, first)}
	return slices.Concat(a[:len(a)-1], []marked{both}, b[1:])
}
