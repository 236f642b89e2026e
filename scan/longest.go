package scan

import (
	"strings"

	"reglet/api"
)

const (
	lineEnd   = '\n'
	backslash = '\\'

	// The length of the longest Punct, %:%: .
	longestPunct = 4
)

// longest is the kind and the length of the longest token with which a text that is not empty begins, headers and comments left out; 0 and 0 if none begins there.
func longest(s string) (kind, length int) {
	for _, k := range [...]int{api.Word, api.Number, api.Chars, api.String, api.Punct, api.Newline} {
		if n := measure(k, s); n > length {
			kind, length = k, n
		}
	}
	if length == 0 && s[0] != '\'' && s[0] != '"' {
		return api.Other, 1
	}
	return kind, length
}

// measure is the length of the longest token of a kind with which s begins; 0 if there is none.
func measure(kind int, s string) int {
	switch kind {
	case api.Word:
		return word(s)
	case api.Number:
		return number(s)
	case api.Chars:
		return quoted(s, '\'', 1, "", "u", "U", "L")
	case api.String:
		return quoted(s, '"', 0, "", "u8", "u", "U", "L")
	case api.Punct:
		return punct(s)
	case api.Newline:
		return newline(s)
	}
	return 0
}

// word is the length of the Word with which s begins, or 0.
func word(s string) int {
	if !isLetter(s[0]) {
		return 0
	}
	n := 1
	for n < len(s) && (isLetter(s[n]) || isDigit(s[n])) {
		n++
	}
	return n
}

// number is the length of the longest Number with which s begins, or 0.
func number(s string) int {
	rest := strings.TrimPrefix(s, ".")
	if rest == "" || !isDigit(rest[0]) {
		return 0
	}
	n := len(s) - len(rest) + 1
growing:
	for n < len(s) {
		switch c := s[n]; {
		case isExponent(c) && n+1 < len(s) && isSign(s[n+1]):
			n += 2
		case isDigit(c), isLetter(c), c == '.':
			n++
		default:
			break growing
		}
	}
	return n
}

// quoted is the length of the text with which s begins: one of the prefixes, and between two quotes as many pieces as there are, but not fewer than fewest; 0 if there is none.
func quoted(s string, quote byte, fewest int, prefixes ...string) int {
nextPrefix:
	for _, prefix := range prefixes {
		rest, is := strings.CutPrefix(s, prefix)
		if !is || rest == "" || rest[0] != quote {
			continue
		}
		pieces := 0
		for n := 1; n < len(rest); n++ {
			switch rest[n] {
			case quote:
				if pieces < fewest {
					continue nextPrefix
				}
				return len(prefix) + n + 1
			case lineEnd:
				continue nextPrefix
			case backslash:
				// The byte behind it belongs to the same piece, even a quote, but not the end of the line.
				n++
				if n == len(rest) || rest[n] == lineEnd {
					continue nextPrefix
				}
			}
			pieces++
		}
	}
	return 0
}

// punct is the length of the longest Punct with which s begins, or 0.
func punct(s string) int {
	n := min(len(s), longestPunct)
	for n > 0 && !isPunct(s[:n]) {
		n--
	}
	return n
}

// newline is the length of the Newline with which s begins, or 0.
func newline(s string) int {
	if s[0] == lineEnd {
		return 1
	}
	return 0
}

func isPunct(s string) bool {
	switch s {
	case "[", "]", "(", ")", "{", "}", ".", "->", "++", "--", "&", "*", "+", "-", "~", "!",
		"/", "%", "<<", ">>", "<", ">", "<=", ">=", "==", "!=", "^", "|", "&&", "||",
		"?", ":", ";", "...", "=", "*=", "/=", "%=", "+=", "-=", "<<=", ">>=", "&=", "^=", "|=",
		",", "#", "##", "<:", ":>", "<%", "%>", "%:", "%:%:":
		return true
	}
	return false
}

// header is the length of the Header with which s begins, or 0.
func header(s string) int {
	closing := byte('"')
	switch s[0] {
	case '"':
	case '<':
		closing = '>'
	default:
		return 0
	}
	for n := 1; n < len(s) && s[n] != lineEnd; n++ {
		if s[n] == closing {
			return n + 1
		}
	}
	return 0
}

// comment is the length of the comment that begins s; 0 if it is without its end.
func comment(s string) int {
	if strings.HasPrefix(s, "//") {
		if n := strings.IndexByte(s, lineEnd); n >= 0 {
			return n
		}
		return len(s)
	}
	// The * that opens the comment does not close it.
	inside, _, closed := strings.Cut(s[len("/*"):], "*/")
	if !closed {
		return 0
	}
	return len("/*") + len(inside) + len("*/")
}

// whiteSpace is how many bytes of white space s begins with.
func whiteSpace(s string) int {
	n := 0
	for n < len(s) && isWhiteSpace(s[n]) {
		n++
	}
	return n
}

func isWhiteSpace(c byte) bool {
	return c == ' ' || c == '\t' || c == '\v' || c == '\f'
}

func isLetter(c byte) bool {
	return 'a' <= c && c <= 'z' || 'A' <= c && c <= 'Z' || c == '_'
}

func isDigit(c byte) bool {
	return '0' <= c && c <= '9'
}

func isExponent(c byte) bool {
	return c == 'e' || c == 'E' || c == 'p' || c == 'P'
}

func isSign(c byte) bool {
	return c == '+' || c == '-'
}
