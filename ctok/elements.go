package ctok

import (
	"iter"
	"math"
	"strings"

	"reglet/scan"
)

const (
	// What may stand behind a \ as a letter or a sign, and in the same order the bytes that it then is.
	escapes = `'"?\abfnrtv`
	escaped = "'\"?\\\a\b\f\n\r\t\v"

	// The most digits of an element of base 8.
	octalDigits = 3

	// The most elements of a character constant without a prefix, and the bits that each of them takes of its value.
	mostCharacters = 4
	characterBits  = 8
)

// numbers are those of the elements of a text of layer 2's kind Chars or String, with its prefix, if it consists of elements only.
func numbers(kind int, t string) (prefix string, l []int64, is bool) {
	prefix, inside, is := cutQuotes(kind, t)
	if !is {
		return "", nil, false
	}
	for n, is := range elements(inside, greatest(prefix)) {
		if !is {
			return "", nil, false
		}
		l = append(l, n)
	}
	return prefix, l, true
}

// cutQuotes is what stands ahead of the quotes of a text of the kind Chars or String, and what stands between them.
func cutQuotes(kind int, t string) (prefix, inside string, is bool) {
	if k, one := scan.One(t); !one || k != kind {
		return "", "", false
	}
	last := len(t) - 1
	first := strings.IndexByte(t, t[last])
	return t[:first], t[first+1 : last], true
}

// greatest is the greatest number of an element behind a prefix.
func greatest(prefix string) uint64 {
	switch prefix {
	case "u":
		return math.MaxUint16
	case "U", "L":
		return math.MaxUint32
	}
	return math.MaxUint8
}

// elements are the numbers of the elements of s, from left to right; where something is none, false comes last.
func elements(s string, greatest uint64) iter.Seq2[int64, bool] {
	return func(yield func(int64, bool) bool) {
		for at := 0; at < len(s); {
			n, length := element(s[at:], greatest)
			if !yield(n, length > 0) || length == 0 {
				return
			}
			at += length
		}
	}
}

// element is the number and the length of the element with which s begins, s not being empty; 0 and 0 if none begins there.
func element(s string, greatest uint64) (n int64, length int) {
	behind, is := strings.CutPrefix(s, `\`)
	if !is {
		return int64(s[0]), 1
	}
	if c, is := escape(behind); is {
		return int64(c), 2
	}
	ahead, base, digits := 1, uint64(8), behind[:min(len(behind), octalDigits)]
	if rest, is := strings.CutPrefix(behind, "x"); is {
		ahead, base, digits = 2, 16, rest
	}
	value, count, fits := number(digits, base, greatest)
	if count == 0 || !fits {
		return 0, 0
	}
	return int64(value), ahead + count
}

// escape is the byte that a \ and what stands behind it begin with, if that is one of the letters and signs.
func escape(behind string) (c byte, is bool) {
	for i := range len(escapes) {
		if strings.HasPrefix(behind, escapes[i:i+1]) {
			return escaped[i], true
		}
	}
	return 0, false
}

// packed is the value of a character constant without a prefix whose elements have the numbers l, from one to mostCharacters.
func packed(l []int64) int64 {
	value, end := int64(0), int64(1)
	for _, n := range l {
		value = value<<characterBits + n
		end <<= characterBits
	}
	// The upper half of what so many bits hold are the negative numbers.
	if value >= end/2 {
		value -= end
	}
	return value
}
