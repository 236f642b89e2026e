package expand

import (
	"iter"
	"slices"

	"reglet/api"
)

// argument is what stands for a parameter in a call.
type argument struct {
	pieces   []piece  // one, but for __VA_ARGS__: a comma stands between each two
	expanded []token  // what it is expanded to, if the macro needs that
	raw      []token  // its tokens, once they have been asked for
	parts    []string // their texts, once they have been asked for
}

// call is what is replaced: the name of a macro, with what is in the brackets behind it if the macro is function-like.
type call struct {
	arguments []argument
	hides     names // what the replacement hides besides the name
	rest      *cell // what stands behind
}

// callAt is the call of d that begins with what is on top, if there may be such a call.
func (d *definition) callAt(top, end *cell) (c call, may bool) {
	if !d.Func {
		return call{hides: top.hides, rest: top.below}, true
	}
	pieces, closing := divide(top.below, end)
	if closing == nil || !d.takes(pieces) {
		return call{}, false
	}
	return call{arguments: d.argumentsOf(pieces), hides: top.hides.and(closing.hides), rest: closing.below}, true
}

// takes says whether a call of d may be divided so.
func (d *definition) takes(pieces []piece) bool {
	n := len(d.Params)
	switch {
	case d.Variadic:
		return len(pieces) > n
	case n == 0:
		return len(pieces) == 1 && pieces[0].from == pieces[0].end
	}
	return len(pieces) == n
}

// argumentsOf are the arguments of a call of d, one for each parameter, the one of __VA_ARGS__ last.
func (d *definition) argumentsOf(pieces []piece) []argument {
	var arguments []argument
	for i := range d.Params {
		arguments = append(arguments, argument{pieces: pieces[i : i+1]})
	}
	if d.Variadic {
		arguments = append(arguments, argument{pieces: pieces[len(d.Params):]})
	}
	return arguments
}

// comma is what stands between what ... stands for, whatever the comma in the call is like.
func comma() token {
	return token{PTok: api.PTok{Kind: api.Punct, Text: ","}}
}

// tokens are those of an argument as they stand in the call.
func (a *argument) tokens() []token {
	if a.raw == nil {
		a.raw = slices.Collect(a.all())
	}
	return a.raw
}

// texts are those of the tokens of an argument, unless the layout determines one of these.
func (a *argument) texts() ([]string, api.Errno) {
	if a.parts != nil {
		return a.parts, api.OK
	}
	for t := range a.all() {
		if hangsOnLayout(t) {
			return nil, api.ErrLayout
		}
		a.parts = append(a.parts, t.Text)
	}
	return a.parts, api.OK
}

// all are the tokens of an argument, one after another.
func (a *argument) all() iter.Seq[token] {
	return func(yield func(token) bool) {
		for i, p := range a.pieces {
			if i > 0 && !yield(comma()) {
				return
			}
			for c := p.from; c != p.end; c = c.below {
				if !yield(c.token) {
					return
				}
			}
		}
	}
}
