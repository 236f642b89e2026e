package cond

import (
	"reglet/api"
	"reglet/ctok"
)

// levels are the operators between two parts, those of a level together, the levels that bind less first. (Where a level has no more of them, there are empty texts, which no operator has.)
var levels = [10][4]string{
	{"||"},
	{"&&"},
	{"|"},
	{"^"},
	{"&"},
	{"==", "!="},
	{"<", ">", "<=", ">="},
	{"<<", ">>"},
	{"+", "-"},
	{"*", "/", "%"},
}

// symbol is a token of an expression: an operator (a bracket, too), or a constant or a word, which has no operator.
type symbol struct {
	operator string
	number   number
}

// symbolsOf are the symbols of a list, if each of its tokens is one.
func symbolsOf(l []api.PTok) (symbols []symbol, are bool) {
	symbols = make([]symbol, len(l))
	for i, t := range l {
		s, is := symbolOf(t)
		if !is {
			return nil, false
		}
		symbols[i] = s
	}
	return symbols, true
}

// symbolOf is the symbol of a token, if it is one.
func symbolOf(t api.PTok) (s symbol, is bool) {
	c, e := ctok.Class(t.Kind, t.Text)
	if e != api.OK {
		return symbol{}, false
	}
	switch c.Class {
	case api.Keyword, api.Name:
		return symbol{}, true
	case api.Int:
		bits, unsigned, _ := ctok.Int(c.Text)
		return symbol{number: number{bits: bits, unsigned: unsigned}}, true
	case api.CharLit:
		value, _ := ctok.Char(c.Text)
		return symbol{number: number{bits: uint64(value)}}, true
	case api.Operator:
		return symbol{operator: c.Text}, c.Text != ""
	}
	return symbol{}, false
}

// hasTwoSides says whether an operator stands between two parts.
func hasTwoSides(operator string) bool {
	if operator == "" {
		return false
	}
	for _, level := range levels {
		for _, o := range level {
			if o == operator {
				return true
			}
		}
	}
	return false
}
