package ctok_test

import (
	"encoding/binary"
	"math/big"
	"regexp"
	"strings"
	"testing"

	"reglet/api"
)

// What the chapter says of constants as regular expressions, numbers of any size and integers that wrap round, which share nothing with the package. Those of characters work on texts whose bytes have become runes.
var (
	integers    = regexp.MustCompile(`\A(?:([1-9][0-9]*)|(0[0-7]*)|0[xX]([0-9a-fA-F]+))(?:` + longSuffix + `|([uU])` + longSuffix + `|` + longSuffix + `([uU]))\z`)
	floats      = regexp.MustCompile(`\A(?:(?:[0-9]+\.[0-9]*|\.[0-9]+)(?:[eE][+-]?[0-9]+)?|[0-9]+[eE][+-]?[0-9]+|0[xX](?:[0-9a-fA-F]+\.?[0-9a-fA-F]*|\.[0-9a-fA-F]+)[pP][+-]?[0-9]+)[fFlL]?\z`)
	characters  = regexp.MustCompile(`\A(|u|U|L)'((?:[^'\\\n]|\\[^\n])+)'\z`)
	stringTexts = regexp.MustCompile(`\A(|u8|u|U|L)"((?:[^"\\\n]|\\[^\n])*)"\z`)
	elements    = regexp.MustCompile(`\A(?:\\(['"?\\abfnrtv])|\\([0-7]{1,3})|\\x([0-9a-fA-F]+)|([^\\]))`)
)

const longSuffix = `(?:l|ll|L|LL)?`

// simple are the numbers that the chapter gives for the letters and signs behind a \ .
var simple = map[string]int64{"'": 39, "\"": 34, "?": 63, "\\": 92, "a": 7, "b": 8, "f": 12, "n": 10, "r": 13, "t": 9, "v": 11}

// most are the greatest numbers of elements by the prefix.
var most = map[string]int64{"": 255, "u8": 255, "u": 65535, "U": 4294967295, "L": 4294967295}

// keywords are the texts that the chapter lists as such.
func keywords() []string {
	return strings.Fields("auto break case char const continue default do double else enum extern float for goto if inline int long " +
		"register restrict return short signed sizeof static struct switch typedef union unsigned void volatile while " +
		"_Alignas _Alignof _Atomic _Bool _Complex _Generic _Imaginary _Noreturn _Static_assert _Thread_local")
}

// spellings are the operators with a second spelling, and their first one.
func spellings() map[string]string {
	return map[string]string{"<:": "[", ":>": "]", "<%": "{", "%>": "}", "%:": "#", "%:%:": "##"}
}

// wantInt is what Int should answer.
func wantInt(t string) (uint64, bool, api.Errno) {
	m := integers.FindStringSubmatch(t)
	if m == nil {
		return 0, false, api.ErrConst
	}
	value, base := new(big.Int), 0
	for i, b := range []int{10, 8, 16} {
		if m[i+1] != "" {
			value.SetString(m[i+1], b)
			base = b
		}
	}
	unsigned := m[4] != "" || m[5] != ""
	switch {
	case value.BitLen() > 64, value.BitLen() == 64 && base == 10 && !unsigned:
		return 0, false, api.ErrConst
	case value.BitLen() == 64:
		unsigned = true
	}
	return value.Uint64(), unsigned, api.OK
}

// wantChar is what Char should answer.
func wantChar(t string) (int64, api.Errno) {
	m := characters.FindStringSubmatch(wide(t))
	if m == nil {
		return 0, api.ErrConst
	}
	l, ok := wantNumbers(m[1], m[2])
	switch {
	case !ok, len(l) > 4, len(l) > 1 && m[1] != "":
		return 0, api.ErrConst
	case m[1] != "":
		return l[0], api.OK
	}
	// The bytes of the elements are laid at the upper end of 32 bits, and what is below them is shifted out with the sign.
	var bytes [4]byte
	for i, n := range l {
		bytes[i] = byte(n)
	}
	return int64(int32(binary.BigEndian.Uint32(bytes[:])) >> (32 - 8*len(l))), api.OK
}

// wantStr is what Str should answer.
func wantStr(t string) ([]int64, api.Errno) {
	m := stringTexts.FindStringSubmatch(wide(t))
	if m == nil {
		return nil, api.ErrConst
	}
	l, ok := wantNumbers(m[1], m[2])
	if !ok {
		return nil, api.ErrConst
	}
	return l, api.OK
}

// wantNumbers are the numbers that the elements of a text of runes should have, and whether it consists of elements only.
func wantNumbers(prefix, w string) ([]int64, bool) {
	var l []int64
	for w != "" {
		m := elements.FindStringSubmatch(w)
		if m == nil {
			return nil, false
		}
		n := new(big.Int)
		switch {
		case m[1] != "":
			n.SetInt64(simple[m[1]])
		case m[2] != "":
			n.SetString(m[2], 8)
		case m[3] != "":
			n.SetString(m[3], 16)
		default:
			n.SetInt64(int64([]rune(m[4])[0]))
		}
		if n.Cmp(big.NewInt(most[prefix])) > 0 {
			return nil, false
		}
		l, w = append(l, n.Int64()), w[len(m[0]):]
	}
	return l, true
}

// wantClass is what Class should answer.
func wantClass(kind int, text string) (api.CTok, api.Errno) {
	class := 0
	switch kind {
	case api.Word:
		class = api.Name
		for _, k := range keywords() {
			if k == text {
				class = api.Keyword
			}
		}
	case api.Number:
		if _, _, e := wantInt(text); e == api.OK {
			class = api.Int
		} else if floats.MatchString(text) {
			class = api.Float
		}
	case api.Chars:
		if _, e := wantChar(text); e == api.OK {
			class = api.CharLit
		}
	case api.String:
		if _, e := wantStr(text); e == api.OK {
			class = api.StrLit
		}
	case api.Punct:
		class = api.Operator
		if first := spellings()[text]; first != "" {
			text = first
		}
	}
	if class == 0 {
		return api.CTok{}, api.ErrConst
	}
	return api.CTok{Class: class, Text: text}, api.OK
}

// wide is a text of runes, each of them a byte of s.
func wide(s string) string {
	var w strings.Builder
	for i := range len(s) {
		w.WriteRune(rune(s[i]))
	}
	return w.String()
}

// everyText visits all texts of at most n of the parts given.
func everyText(parts []string, n int, visit func(s string)) {
	visit("")
	level := []string{""}
	for range n {
		var longer []string
		for _, s := range level {
			for _, p := range parts {
				longer = append(longer, s+p)
			}
		}
		for _, s := range longer {
			visit(s)
		}
		level = longer
	}
}

// manyNumbers visits short texts that are numbers, or nearly.
func manyNumbers(visit func(s string)) {
	everyText(strings.Fields("0 1 8 x X a F u U l L"), 5, visit)
	everyText(strings.Fields("0 9 . e E + - f L"), 5, visit)
	everyText(strings.Fields("1 e . a p P + f g _"), 5, func(s string) { visit("0x" + s) })
	everyText(strings.Fields("0 7 F"), 3, func(s string) {
		for _, ahead := range []string{"", "9223372036854775807", "9223372036854775808", "18446744073709551615", "0777777777777777777777", "0x7fffffffffffffff", "0xfffffffffffffff", "0XFFFFFFFFFFFFFFFF", "01777777777777777777777"} {
			for _, behind := range []string{"", "u", "Ul", "lu", "LL", ".", "e1", "p1"} {
				visit(ahead + s + behind)
			}
		}
	})
	for c := range 256 {
		b := string([]byte{byte(c)})
		for _, s := range []string{b, "0" + b, "1" + b, b + "1", "0x" + b, "0x1" + b, "1." + b, "1e" + b, "1e5" + b, "1e" + b + "1", "1u" + b, "0" + b + "1", "0x1" + b + "1"} {
			visit(s)
		}
	}
}

// manyQuoted visits short texts that are character constants or strings, or nearly.
func manyQuoted(visit func(s string)) {
	prefixes := []string{"", "u", "U", "L", "u8", "U8", "l", "uu", " "}
	each := func(inside string) {
		for _, prefix := range prefixes {
			visit(prefix + "'" + inside + "'")
			visit(prefix + "\"" + inside + "\"")
		}
	}
	everyText([]string{"\\", "x", "0", "7", "8", "f", "a", "'", "\"", "\n"}, 4, each)
	everyText([]string{"\\x", "\\3", "7", "F", "\x80", "?"}, 5, each)
	everyText([]string{"\\x7f", "\\x80", "\\377", "\\0", "a", "\\"}, 5, each)
	for c := range 256 {
		b := string([]byte{byte(c)})
		for _, s := range []string{b, "\\" + b, "\\1" + b, "\\x" + b, "\\xf" + b, "\\\\" + b, b + b, "\\07" + b} {
			each(s)
		}
	}
	everyText([]string{"'", "\"", "a", "\\", "u", "8"}, 5, visit)
}

// A test over many texts says nothing if there are none.
func TestManyTextsAreMany(t *testing.T) {
	n, valid := 0, 0
	manyNumbers(func(s string) {
		n++
		if _, _, e := wantInt(s); e == api.OK || floats.MatchString(s) {
			valid++
		}
	})
	manyQuoted(func(s string) {
		n++
		_, e := wantChar(s)
		_, f := wantStr(s)
		if e == api.OK || f == api.OK {
			valid++
		}
	})
	if n < 500000 || valid < 50000 {
		t.Error(n, valid)
	}
}
