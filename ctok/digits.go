package ctok

import (
	"iter"
	"math"
	"strings"
)

const (
	maxSigned   = math.MaxInt64
	maxUnsigned = math.MaxUint64

	// What a byte that is no digit is worth: as much as no digit of any base.
	noDigit = 16
)

// digits are the bytes of s, each as what it is worth as a digit.
func digits(s string) iter.Seq[uint64] {
	return func(yield func(uint64) bool) {
		for i := range len(s) {
			if !yield(digit(s[i])) {
				return
			}
		}
	}
}

// digit is what a byte is worth as a digit, or noDigit.
func digit(c byte) uint64 {
	switch {
	case '0' <= c && c <= '9':
		return uint64(c - '0')
	case 'a' <= c && c <= 'f':
		return uint64(c-'a') + 10
	case 'A' <= c && c <= 'F':
		return uint64(c-'A') + 10
	}
	return noDigit
}

// number is what the digits of a base with which s begins are worth, and how many there are, also none; it does not fit if it is beyond the greatest, which is no less than a digit.
func number(s string, base, greatest uint64) (value uint64, length int, fits bool) {
	fits = true
taking:
	for d := range digits(s) {
		switch {
		case d >= base:
			break taking
		case fits && value <= (greatest-d)/base:
			value = value*base + d
		default:
			// What does not fit is read to its end all the same: its length counts.
			value, fits = 0, false
		}
		length++
	}
	return value, length, fits
}

// cutBase cuts ahead of the digits of an integer constant what tells their base. (The 0 of base 8 is a digit.)
func cutBase(t string) (digits string, base uint64) {
	if rest, is := cutHexadecimal(t); is {
		return rest, 16
	}
	if strings.HasPrefix(t, "0") {
		return t, 8
	}
	return t, 10
}

// cutHexadecimal is t without the 0x or 0X with which it begins, if it does.
func cutHexadecimal(t string) (rest string, is bool) {
	if strings.HasPrefix(t, "0x") || strings.HasPrefix(t, "0X") {
		return t[2:], true
	}
	return t, false
}

// suffix says whether s is the suffix of an integer constant, also an empty one, and whether it has a u or U.
func suffix(s string) (unsigned, is bool) {
	long, unsigned := cutUnsigned(s)
	switch long {
	case "", "l", "ll", "L", "LL":
		return unsigned, true
	}
	return false, false
}

// cutUnsigned is s without the one u or U with which it begins or ends, if it does.
func cutUnsigned(s string) (rest string, is bool) {
	for _, u := range [...]string{"u", "U"} {
		if rest, is := strings.CutPrefix(s, u); is {
			return rest, true
		}
		if rest, is := strings.CutSuffix(s, u); is {
			return rest, true
		}
	}
	return s, false
}

// cutMantissa cuts the digits with which s begins, at least one, and at most one point within, before or after them.
func cutMantissa(s string, base uint64) (rest string, point, is bool) {
	whole := countDigits(s, base)
	rest, point = strings.CutPrefix(s[whole:], ".")
	if !point {
		return rest, false, whole > 0
	}
	part := countDigits(rest, base)
	return rest[part:], true, whole+part > 0
}

// cutExponent cuts the exponent with which s begins, with one of the letters; if there is none, s stays whole.
func cutExponent(s, letters string) (rest string, is bool) {
	if s == "" || strings.IndexByte(letters, s[0]) < 0 {
		return s, false
	}
	rest = s[1:]
	if strings.HasPrefix(rest, "+") || strings.HasPrefix(rest, "-") {
		rest = rest[1:]
	}
	length := countDigits(rest, 10)
	if length == 0 {
		return s, false
	}
	return rest[length:], true
}

// countDigits is with how many digits of a base s begins.
func countDigits(s string, base uint64) int {
	_, length, _ := number(s, base, maxUnsigned)
	return length
}
