package cond

import "reglet/api"

// evaluation is an expression that is evaluated from left to right. What is not needed is read in the same way, since its signedness counts, but it is not live: no error occurs in it.
type evaluation struct {
	left   []symbol  // what is still to be read
	failed api.Errno // the first error that occurred
}

// evaluate is the value of an expression that is not too deep, or the first error that occurs in its evaluation.
func evaluate(expression []symbol) (number, api.Errno) {
	v := evaluation{left: expression}
	n := v.choice(true)
	if v.failed != api.OK {
		return number{}, v.failed
	}
	return n, api.OK
}

// choice reads an expression: a choice, or what may be the first part of one.
func (v *evaluation) choice(live bool) number {
	asked := v.level(0, live)
	if !v.takes("?") {
		return asked
	}
	first := v.choice(live && asked.holds())
	v.takes(":")
	second := v.choice(live && !asked.holds())
	chosen := second
	if asked.holds() {
		chosen = first
	}
	return number{bits: chosen.bits, unsigned: first.unsigned || second.unsigned}
}

// level reads a part whose operators, outside of brackets and choices, are of a level or of those that bind more.
func (v *evaluation) level(n int, live bool) number {
	if n == len(levels) {
		return v.prefixed(live)
	}
	left := v.level(n+1, live)
taking:
	for {
		for _, operator := range levels[n] {
			if operator == "" || !v.takes(operator) {
				continue
			}
			right := v.level(n+1, live && needs(operator, left))
			left = v.combined(operator, left, right, live)
			continue taking
		}
		break taking
	}
	return left
}

// needs says whether an operator needs what is on its right, with that on its left.
func needs(operator string, left number) bool {
	switch operator {
	case "||":
		return !left.holds()
	case "&&":
		return left.holds()
	}
	return true
}

// combined is what an operator makes of two parts that have been read.
func (v *evaluation) combined(operator string, left, right number, live bool) number {
	n, e := combine(operator, left, right)
	if live && v.failed == api.OK {
		v.failed = e
	}
	return n
}

// prefixed reads a constant, a word or brackets, with the prefix operators ahead of it.
func (v *evaluation) prefixed(live bool) number {
	s := v.left[0]
	v.left = v.left[1:]
	switch s.operator {
	case "":
		return s.number
	case "(":
		inside := v.choice(live)
		v.takes(")")
		return inside
	}
	return prefix(s.operator, v.prefixed(live))
}

// takes reads an operator, if it comes next.
func (v *evaluation) takes(operator string) bool {
	if len(v.left) == 0 || v.left[0].operator != operator {
		return false
	}
	v.left = v.left[1:]
	return true
}
