package cond

import "reglet/api"

// number is a value: 64 bits, in two's complement unless it is unsigned.
type number struct {
	bits     uint64
	unsigned bool
}

// holds says whether a number is not 0.
func (n number) holds() bool { return n.bits != 0 }

// truth is what an operator yields that says whether something is so.
func truth(is bool) number {
	if is {
		return number{bits: 1}
	}
	return number{}
}

// prefix is what a prefix operator makes of a number.
func prefix(operator string, n number) number {
	switch operator {
	case "-":
		n.bits = -n.bits
	case "~":
		n.bits = ^n.bits
	case "!":
		return truth(!n.holds())
	}
	return n
}

// combine is what an operator makes of two numbers. Beside an error the result is 0, as unsigned as without one.
func combine(operator string, left, right number) (number, api.Errno) {
	switch operator {
	case "||":
		return truth(left.holds() || right.holds()), api.OK
	case "&&":
		return truth(left.holds() && right.holds()), api.OK
	case "==", "!=", "<", ">", "<=", ">=":
		return truth(compares(operator, left, right)), api.OK
	case "<<", ">>":
		return shift(operator, left, right)
	case "/", "%":
		return divide(operator, left, right)
	}
	return number{bits: calculate(operator, left.bits, right.bits), unsigned: left.unsigned || right.unsigned}, api.OK
}

// compares says whether a comparison of two numbers holds.
func compares(operator string, left, right number) bool {
	switch operator {
	case "==":
		return left.bits == right.bits
	case "!=":
		return left.bits != right.bits
	case "<":
		return less(left, right)
	case ">":
		return less(right, left)
	case "<=":
		return !less(right, left)
	}
	return !less(left, right)
}

// less says whether one number is less than another one.
func less(a, b number) bool {
	if a.unsigned || b.unsigned {
		return a.bits < b.bits
	}
	return int64(a.bits) < int64(b.bits)
}

// shift is a number, shifted.
func shift(operator string, left, right number) (number, api.Errno) {
	// As bits, a negative number is too great, too.
	if right.bits > 63 {
		return number{unsigned: left.unsigned}, api.ErrCond
	}
	switch {
	case operator == "<<":
		left.bits <<= right.bits
	case left.unsigned:
		left.bits >>= right.bits
	default:
		left.bits = uint64(int64(left.bits) >> right.bits)
	}
	return left, api.OK
}

// divide is what / or % yields.
func divide(operator string, left, right number) (number, api.Errno) {
	n := number{unsigned: left.unsigned || right.unsigned}
	if !right.holds() {
		return n, api.ErrZero
	}
	switch {
	case n.unsigned && operator == "/":
		n.bits = left.bits / right.bits
	case n.unsigned:
		n.bits = left.bits % right.bits
	case operator == "/":
		n.bits = uint64(int64(left.bits) / int64(right.bits))
	default:
		n.bits = uint64(int64(left.bits) % int64(right.bits))
	}
	return n, api.OK
}

// calculate is what an operator yields whose bits are the same, signed or unsigned.
func calculate(operator string, left, right uint64) uint64 {
	switch operator {
	case "|":
		return left | right
	case "^":
		return left ^ right
	case "&":
		return left & right
	case "+":
		return left + right
	case "-":
		return left - right
	}
	return left * right
}
