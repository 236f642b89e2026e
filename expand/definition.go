package expand

import (
	"iter"
	"slices"

	"reglet/api"
	"reglet/macro"
)

// definition is a macro, ready to be filled.
type definition struct {
	api.Macro
	number  int    // 0 until it is replaced for the first time
	items   []item // of its body
	expands []bool // for each argument, whether an item needs it expanded
}

// item is a piece of a body: # and the parameter behind it, or a single token other than ## .
type item struct {
	api.PTok      // the first one of its tokens
	pasted   bool // whether ## stands ahead of it
	use      use
	argument int // the number of the argument of which it is made, if there is one
}

// use is what an item yields.
type use int

const (
	itself      use = iota // its token
	expanded               // the tokens of an argument, expanded
	raw                    // the tokens of an argument, as they stand in the call
	stringified            // one token, of the texts of an argument
)

// byName are macros by their names, unless two have the same one, or one has no line.
func byName(defs []api.Macro) (macros map[string]*definition, may bool) {
	macros = map[string]*definition{}
	for _, m := range defs {
		if macros[m.Name] != nil {
			return nil, false
		}
		if _, e := macro.Text(m); e != api.OK {
			return nil, false
		}
		macros[m.Name] = define(m)
	}
	return macros, true
}

// define is the definition of a macro that has a line.
func define(m api.Macro) *definition {
	d := &definition{Macro: m, expands: make([]bool, len(m.Params)+1)}
	for it := range itemsOf(m) {
		d.items = append(d.items, it)
		if it.use == expanded {
			d.expands[it.argument] = true
		}
	}
	return d
}

// itemsOf are the items of a macro's body.
func itemsOf(m api.Macro) iter.Seq[item] {
	return func(yield func(item) bool) {
		arguments, pasted := argumentNumbers(m), false
		for i := 0; i < len(m.Body); i++ {
			if pastes(m.Body, i) {
				pasted = true
				continue
			}
			it := item{PTok: m.Body[i], pasted: pasted}
			number, isArgument := arguments[it.Text]
			switch {
			case m.Func && is(it.PTok, "#", "%:"):
				// The line of a macro says that a parameter stands behind it.
				i++
				it.use, it.argument = stringified, arguments[m.Body[i].Text]
			case isArgument && (pastes(m.Body, i-1) || pastes(m.Body, i+1)):
				it.use, it.argument = raw, number
			case isArgument:
				it.use, it.argument = expanded, number
			}
			if !yield(it) {
				return
			}
			pasted = false
		}
	}
}

// argumentNumbers are the numbers of a macro's arguments, by what they are called in its body. (Nothing but a Word is spelt so there, since the macro has a line.)
func argumentNumbers(m api.Macro) map[string]int {
	numbers := map[string]int{}
	for i, p := range m.Params {
		numbers[p] = i
	}
	if m.Variadic {
		numbers["__VA_ARGS__"] = len(m.Params)
	}
	return numbers
}

// pastes says whether there is a ## at a place of a body.
func pastes(body []api.PTok, at int) bool {
	return at >= 0 && at < len(body) && is(body[at], "##", "%:%:")
}

// is says whether t is a Punct with one of the spellings.
func is(t api.PTok, spellings ...string) bool {
	return t.Kind == api.Punct && slices.Contains(spellings, t.Text)
}
