package cond_test

import (
	"math"
	"reflect"
	"slices"
	"strconv"
	"strings"
	"testing"

	"reglet/api"
	"reglet/cond"
	"reglet/macro"
	"reglet/scan"
)

const (
	signed   = false
	unsigned = true

	// The ends of what a signed number may be, and the greatest unsigned one, as bits.
	least    = uint64(1) << 63
	greatest = uint64(math.MaxInt64)
	most     = uint64(math.MaxUint64)
)

// bits are those of a signed number.
func bits(n int64) uint64 { return uint64(n) }

// list are the macro tokens of a text.
func list(t *testing.T, s string) []api.PTok {
	t.Helper()
	l, e := scan.Scan(s + "\n")
	if e != api.OK {
		t.Fatal(s, e)
	}
	return macro.Of(scan.Bare(l))
}

// shown is a list as a message shows it.
func shown(l []api.PTok) string {
	var texts []string
	for i, t := range l {
		if i == 60 {
			texts = append(texts, "..")
			break
		}
		texts = append(texts, t.Text)
	}
	return strings.Join(texts, " ")
}

// worth is what Value answers.
type worth struct {
	value    uint64
	unsigned bool
}

// wantWorths says what texts are worth, and that Holds says the same.
func wantWorths(t *testing.T, of map[string]worth) {
	t.Helper()
	for s, want := range of {
		if v, u, e := cond.Value(list(t, s)); e != api.OK || v != want.value || u != want.unsigned {
			t.Errorf("Value(%s): %d, %v, %v, not %v", s, v, u, e, want)
		}
		if h, e := cond.Holds(list(t, s)); e != api.OK || h != (want.value != 0) {
			t.Errorf("Holds(%s): %v, %v", s, h, e)
		}
	}
}

// wantSigned says what signed numbers texts are worth.
func wantSigned(t *testing.T, of map[string]int64) {
	t.Helper()
	worths := map[string]worth{}
	for s, n := range of {
		worths[s] = worth{bits(n), signed}
	}
	wantWorths(t, worths)
}

// wantErrorOf says that a list has an error, and that every other result is 0 then.
func wantErrorOf(t *testing.T, want api.Errno, l []api.PTok) {
	t.Helper()
	if v, u, e := cond.Value(l); e != want || v != 0 || u {
		t.Errorf("Value(%s): %d, %v, %v, not %v", shown(l), v, u, e, want)
	}
	if h, e := cond.Holds(l); e != want || h {
		t.Errorf("Holds(%s): %v, %v, not %v", shown(l), h, e, want)
	}
}

// wantErrors says that texts have an error.
func wantErrors(t *testing.T, want api.Errno, texts ...string) {
	t.Helper()
	for _, s := range texts {
		wantErrorOf(t, want, list(t, s))
	}
}

// P7.1

func TestExamples(t *testing.T) {
	wantSigned(t, map[string]int64{
		"1 + 2 * 3 - -4": 11, "7 / -2": -3, "7 % -2": 1, "-1 >> 1": -1,
		"-1 < 0u": 0, "0 && 1 / 0": 0, "1 || 1 / 0": 1, "1 ? 2 : 1 % 0": 2, "int": 0,
	})
	wantWorths(t, map[string]worth{"-1 / 2u": {1<<63 - 1, unsigned}, "0 ? 1u : -1": {most, unsigned}})
	wantErrors(t, api.ErrZero, "1 / 0")
	wantErrors(t, api.ErrCond, "1 << 64", "1 +", "(1", "1.0", "", "1 , 2")
}

func TestNoTokens(t *testing.T) {
	for _, l := range [][]api.PTok{nil, {}, list(t, "1")[:0]} {
		wantErrorOf(t, api.ErrCond, l)
	}
}

func TestConstants(t *testing.T) {
	wantSigned(t, map[string]int64{
		"0": 0, "1": 1, "017": 15, "0x1F": 31, "0X7fffffffffffffff": math.MaxInt64, "9223372036854775807": math.MaxInt64,
		"1l": 1, "1LL": 1, "'a'": 97, `'\xff'`: -1, `'\0'`: 0, "'ab'": 24930, `'\xff\xff\xff\xfe'`: -2, `L'\xffffffff'`: math.MaxUint32,
		`u'\xffff'`: math.MaxUint16, `U'\xff'`: 255, `'"'`: 34, "(1)": 1, "((('a')))": 97,
	})
	wantWorths(t, map[string]worth{
		"0u": {0, unsigned}, "1U": {1, unsigned}, "1ull": {1, unsigned}, "18446744073709551615u": {most, unsigned},
		"9223372036854775808u": {least, unsigned}, "0x8000000000000000": {least, unsigned}, "0xffffffffffffffffll": {most, unsigned},
		"01000000000000000000000": {least, unsigned}, "0x7fffffffffffffffu": {greatest, unsigned}, "(1u)": {1, unsigned},
	})
	wantErrors(t, api.ErrCond, "9223372036854775808", "18446744073709551616u", "08", "1x", "1uu", "1lul", `'\400'`, "u'ab'", "L'ab'", "'abcde'", `'\q'`)
}

func TestWords(t *testing.T) {
	wantSigned(t, map[string]int64{
		"x": 0, "int": 0, "sizeof": 0, "if": 0, "defined": 0, "true": 0, "false": 0, "__LINE__": 0, "__VA_ARGS__": 0, "_Pragma": 0, "L": 0, "u8": 0,
		"x + 1": 1, "!x": 1, "~_Bool": -1, "x == y": 1, "x ? 1 : 2": 2, "-x": 0, "(x)": 0, "1 || x": 1, "a - 1 < b": 1,
	})
	wantErrors(t, api.ErrCond, "x y", "x 1", "1 x", "f(1)", "f()", "defined x", "defined(x)", "sizeof(int)", "(int) 1", "1 and 1", "not 1", "x.y", "x->y", "x[1]")
	// Of a Word nothing but the kind is asked.
	for _, text := range []string{"", "+", "1", "(", ")", "?", "&&", "1.0", "\"", "\xff", " "} {
		word := api.PTok{Kind: api.Word, Text: text}
		plus, one := list(t, "+")[0], list(t, "1")[0]
		for _, l := range [][]api.PTok{{word}, {word, plus, word}, {plus, word}} {
			if v, u, e := cond.Value(l); v != 0 || u || e != api.OK {
				t.Errorf("Value(%q): %d, %v, %v", shown(l), v, u, e)
			}
		}
		for _, l := range [][]api.PTok{{word, word}, {one, word}, {word, one}, {one, word, one}} {
			wantErrorOf(t, api.ErrCond, l)
		}
	}
}

// strangers are tokens that are no part of an expression.
func strangers() (l []api.PTok) {
	for _, text := range strings.Fields("[ ] { } . -> ++ -- ; ... = *= /= %= += -= <<= >>= &= ^= |= , # ## <: :> <% %> %: %:%:") {
		l = append(l, api.PTok{Kind: api.Punct, Text: text})
	}
	for _, text := range []string{"", "1", "a", "'a'", " +", "+ ", "()", "&&&", "? :", "<=>", "**", "\x00", "and", "??'", "++ +", "==="} {
		l = append(l, api.PTok{Kind: api.Punct, Text: text})
	}
	for _, text := range []string{"1.0", "1.", ".5", "1e5", "0x1p3", "1f", "1x", "08", "0x", "1.2.3", "9223372036854775808", "", "a", "'a'", "+", "-1", " 1", "1 "} {
		l = append(l, api.PTok{Kind: api.Number, Text: text})
	}
	for _, text := range []string{"''", "'abcde'", `'\q'`, `'\400'`, "u'ab'", "u8'a'", "'a", "1", "a", "", "\"a\"", "'a''b'", "+"} {
		l = append(l, api.PTok{Kind: api.Chars, Text: text})
	}
	for _, text := range []string{`""`, `"a"`, `L"a"`, "'a'", "1", "+", ""} {
		l = append(l, api.PTok{Kind: api.String, Text: text})
	}
	for _, kind := range []int{math.MinInt, -1, 0, api.Other, api.Header, api.Comment, api.Newline, 12, 13, 100, math.MaxInt} {
		for _, text := range []string{"1", "a", "+", "'a'", "(", "", "@", "<a>", "/**/", "\n"} {
			l = append(l, api.PTok{Kind: kind, Text: text})
		}
	}
	return l
}

func TestTokensThatAreNoSymbols(t *testing.T) {
	for _, stranger := range strangers() {
		for _, around := range [][2]string{{"", ""}, {"1", ""}, {"", "1"}, {"1", "1"}, {"1 +", ""}, {"1 +", "+ 1"}, {"(", ")"}, {"0 &&", ""}, {"1 ||", "|| 1"}, {"1 ? 1 :", ""}, {"0 ?", ": 1"}, {"1 / 0 +", ""}, {"-", ""}, {"1", "1 )"}} {
			wantErrorOf(t, api.ErrCond, slices.Concat(list(t, around[0]), []api.PTok{stranger}, list(t, around[1])))
		}
	}
}

// layouts are tokens that hang on the layout, whatever their texts are.
func layouts() (l []api.PTok) {
	for _, text := range []string{"", "1", "__LINE__", "+", "a"} {
		l = append(l, api.PTok{Kind: api.Line, Text: text}, api.PTok{Kind: api.Made, Text: text}, api.PTok{Kind: api.Made, Text: text, Parts: []string{"1", "+"}})
	}
	return l
}

func TestLayout(t *testing.T) {
	deep := strings.Repeat("(", 300)
	for _, token := range layouts() {
		for _, around := range [][2]string{{"", ""}, {"1 +", ""}, {"", "+ 1"}, {"1", ""}, {"", "1"}, {"(", ""}, {"", ")"}, {"1.0", ""}, {"", "1.0"}, {"1 , 2", ""}, {"", "{ ; }"}, {"\"\"", "#"},
			{"0 &&", ""}, {"1 ||", ""}, {"1 ? 2 :", ""}, {"0 ?", ": 2"}, {"1 / 0 +", ""}, {"", "/ 0"}, {"1 << 64 ||", ""}, {deep, ""}, {"", deep}, {deep + "1" + strings.Repeat(")", 300) + "+", ""}} {
			wantErrorOf(t, api.ErrLayout, slices.Concat(list(t, around[0]), []api.PTok{token}, list(t, around[1])))
		}
		for _, stranger := range strangers() {
			wantErrorOf(t, api.ErrLayout, []api.PTok{stranger, token})
			wantErrorOf(t, api.ErrLayout, []api.PTok{token, stranger})
		}
	}
}

// Space and Parts, which nobody names, are not asked for.
func TestOtherFields(t *testing.T) {
	l := list(t, "1+2*(x?3:-'a')")
	for i := range l {
		l[i].Space, l[i].Parts = i%2 == 0, []string{"1", "+"}
	}
	if v, u, e := cond.Value(l); v != bits(1-2*97) || u || e != api.OK {
		t.Error(v, u, e)
	}
}

func TestOperators(t *testing.T) {
	wantSigned(t, map[string]int64{
		"2 || 0": 1, "0 || 3": 1, "0 || 0": 0, "2 && 3": 1, "2 && 0": 0, "0 && 2": 0,
		"12 | 10": 14, "12 ^ 10": 6, "12 & 10": 8, "-1 & 10": 10, "-1 ^ 10": -11, "-8 | 1": -7,
		"3 == 3": 1, "3 == 4": 0, "3 != 4": 1, "3 != 3": 0, "-1 == 18446744073709551615u": 1, "-1 != 18446744073709551615u": 0,
		"3 < 4": 1, "3 < 3": 0, "4 < 3": 0, "3 > 4": 0, "3 > 3": 0, "4 > 3": 1, "3 <= 4": 1, "3 <= 3": 1, "4 <= 3": 0, "3 >= 4": 0, "3 >= 3": 1, "4 >= 3": 1,
		"-1 < 0": 1, "-1 > 0u": 1, "-1 <= 0u": 0, "0u >= -1": 0, "1u > 0": 1,
		"3 << 2": 12, "12 >> 2": 3, "-12 >> 2": -3, "-1 << 63": math.MinInt64, "1 << 63": math.MinInt64, "3 << 63": math.MinInt64, "2 << 63": 0, "1 << 63 >> 63": -1,
		"3 + 4": 7, "3 - 4": -1, "3 * -4": -12, "13 / 4": 3, "-13 / 4": -3, "13 / -4": -3, "-13 / -4": 3, "13 % 4": 1, "-13 % 4": -1, "13 % -4": 1, "-13 % -4": -1,
		"9223372036854775807 + 1": math.MinInt64, "-9223372036854775807 - 2": math.MaxInt64, "4294967296 * 4294967296": 0, "9223372036854775807 * 2": -2,
		"(-9223372036854775807 - 1) / -1": math.MinInt64, "(-9223372036854775807 - 1) % -1": 0, "-(-9223372036854775807 - 1)": math.MinInt64,
	})
	wantWorths(t, map[string]worth{
		"-1 + 0u": {most, unsigned}, "0u - 1": {most, unsigned}, "2 * 9223372036854775808u": {0, unsigned}, "1u | -2": {most, unsigned}, "-1 ^ 1u": {most - 1, unsigned}, "-1 & 2u": {2, unsigned},
		"-8 / 3u": {(most - 7) / 3, unsigned}, "-8 % 3u": {(most - 7) % 3, unsigned}, "8u / -3": {0, unsigned}, "8u % -3": {8, unsigned}, "9223372036854775808u / -1": {0, unsigned}, "9223372036854775808u % -1": {least, unsigned},
		"1u << 63": {least, unsigned}, "9223372036854775808u >> 63": {1, unsigned}, "-1 + 0u >> 60": {15, unsigned},
	})
}

func TestPrefixes(t *testing.T) {
	wantSigned(t, map[string]int64{
		"+1": 1, "-1": -1, "!1": 0, "!0": 1, "!5": 0, "~0": -1, "~1": -2, "!0u": 1, "!1u": 0, "!x": 1, "-x": 0,
		"- - 1": 1, "!!5": 1, "!!!5": 0, "~~5": 5, "-~5": 6, "~-5": 4, "+ + 5": 5, "- + ! ~ 0": 0, "- + ! ~ - 1": -1,
		"-(1)": -1, "!(1 - 1)": 1, "~(2 + 3)": -6, "-(-(1))": 1, "-'a'": -97, "!'a'": 0,
		"1 - -1": 2, "1 - - -1": 0, "1 + + 1": 2, "2 * -3": -6, "2 - !0": 1, "5 & ~1": 4, "1 < -1": 0, "1 == !0": 1, "1 && !0": 1, "0 || -1": 1, "1 << +3": 8,
		"-1 + 2": 1, "!1 + 2": 2, "!1 == 0": 1, "~1 & 3": 2, "-7 / 2": -3, "-1 * 2": -2, "-1 ? 2 : 3": 2, "!1 ? 2 : 3": 3, "1 ? -2 : -3": -2, "0 ? -2 : -3": -3, "!0 || 0": 1, "!1 && 0": 0,
	})
	wantWorths(t, map[string]worth{"-1u": {most, unsigned}, "~0u": {most, unsigned}, "+1u": {1, unsigned}, "- -1u": {1, unsigned}, "-0u": {0, unsigned}, "-9223372036854775808u": {least, unsigned}, "~~1u": {1, unsigned}})
	wantErrors(t, api.ErrCond, "-", "+", "!", "~", "- -", "1 -", "1 !", "1 ~", "1 ! 2", "1 ~ 2", "! ( )", "- )", "( - )", "-*1", "* 1", "/ 1", "& 1", "&& 1", "| 1", "< 1", "! ? 1 : 2", "1 ? ! : 2", "++1", "--1", "1++")
}

func TestOfTwoOperatorsOneBindsMore(t *testing.T) {
	level := map[string]int{}
	var operators []string
	for n, l := range binaries() {
		for _, operator := range l {
			level[operator] = n
			operators = append(operators, operator)
		}
	}
	values := []string{"0", "1", "2", "5", "7", "-1", "-6", "3u"}
	answer := func(s string) [3]uint64 {
		v, u, e := cond.Value(list(t, s))
		n := [3]uint64{v, 0, uint64(e)}
		if u {
			n[1] = 1
		}
		return n
	}
	for _, first := range operators {
		for _, second := range operators {
			differ := 0
			for _, a := range values {
				for _, b := range values {
					for _, c := range values {
						plain := answer(a + " " + first + " " + b + " " + second + " " + c)
						left := answer("(" + a + " " + first + " " + b + ") " + second + " " + c)
						right := answer(a + " " + first + " (" + b + " " + second + " " + c + ")")
						want := left
						if level[first] < level[second] {
							want = right
						}
						if plain != want {
							t.Errorf("%s %s %s %s %s: %v, not %v", a, first, b, second, c, plain, want)
						}
						if left != right {
							differ++
						}
					}
				}
			}
			same := slices.Contains([]string{"|| ||", "&& &&", "| |", "^ ^", "& &", "+ +", "+ -", "* *", "* <<"}, first+" "+second)
			if same != (differ == 0) {
				t.Errorf("%s and %s: %d values tell how they bind", first, second, differ)
			}
		}
	}
}

func TestOperatorsOfOneLevel(t *testing.T) {
	wantSigned(t, map[string]int64{
		"9 - 4 - 3": 2, "9 - 4 + 3": 8, "9 - (4 - 3)": 8, "1 - 2 - 3 - 4 + 5": -3, "64 / 4 / 2": 8, "64 / 4 * 2": 32, "7 * 5 % 4": 3, "7 % 5 * 4": 8, "100 / 7 % 5 * 3": 12,
		"1 << 2 << 3": 32, "64 >> 2 << 1": 32, "64 >> (2 << 1)": 4, "3 > 2 > 1": 0, "3 > (2 > 1)": 1, "1 < 2 < 3": 1, "5 >= 4 <= 0": 0, "2 == 2 == 2": 0, "2 == (2 == 1)": 0, "3 != 2 == 1": 1,
		"0 && 0 || 1": 1, "1 || 0 && 0": 1, "(1 || 0) && 0": 0, "0 || 0 || 3": 1, "1 && 2 && 3": 1, "1 && 2 && 0": 0,
	})
}

func TestChoices(t *testing.T) {
	wantSigned(t, map[string]int64{
		"1 ? 2 : 3": 2, "0 ? 2 : 3": 3, "-1 ? 2 : 3": 2, "x ? 2 : 3": 3,
		"1 ? 1 ? 2 : 3 : 4": 2, "1 ? 0 ? 2 : 3 : 4": 3, "0 ? 1 ? 2 : 3 : 4": 4, "1 ? (0 ? 2 : 3) : 4": 3,
		"1 ? 0 : 1 ? 2 : 3": 0, "0 ? 0 : 1 ? 2 : 3": 2, "0 ? 0 : 0 ? 2 : 3": 3, "(1 ? 0 : 1) ? 2 : 3": 3, "1 ? 0 : (1 ? 2 : 3)": 0,
		"0 ? 1 : 0 ? 2 : 0 ? 3 : 4": 4, "1 ? 0 ? 1 : 0 ? 2 : 3 : 4": 3, "0 ? 1 ? 2 : 3 : 1 ? 4 : 5": 4,
		"0 || 1 ? 2 : 3": 2, "1 ? 2 : 0 || 1": 2, "0 ? 2 : 0 || 3": 1, "1 ? 0 || 5 : 3": 1, "1 + 1 ? 2 : 3": 2, "1 - 1 ? 2 : 3 + 4": 7, "1 + (1 ? 2 : 3)": 3, "(0 ? 1 : 2) + 3": 5, "-(1 ? 2 : 3)": -2,
	})
	wantWorths(t, map[string]worth{
		"1 ? -1 : 0u": {most, unsigned}, "1 ? 0u : -1": {0, unsigned}, "0 ? -1 : 0u": {0, unsigned}, "1u ? -1 : 0": {most, signed}, "0u ? 1 : -2": {bits(-2), signed},
		"1 ? -1 : (0 ? 1u : 2)": {most, unsigned}, "1 ? -1 : 0 ? 1u : 2": {most, unsigned}, "1 ? 1 ? -1 : 0u : 0": {most, unsigned}, "(1 ? -1 : 0u) < 0": {0, signed}, "(1 ? -1 : 0) < 0": {1, signed},
		"1 ? -1 : !0u": {most, signed}, "1 ? -1 : (1 << 2u)": {most, signed}, "1 ? -1 : 1u << 2": {most, unsigned}, "1 ? -1 : (1u < 2u)": {most, signed}, "1 ? -1 : (1u && 2u)": {most, signed}, "1 ? -1 : -1u": {most, unsigned},
	})
	wantErrors(t, api.ErrCond, "?", ":", "1 ?", "1 :", "? 1", ": 1", "1 ? 2", "1 : 2", "1 ? 2 :", "1 ? : 2", "? 1 : 2", "1 ? 2 : 3 : 4", "1 ? 2 : 3 ?", "1 ? 2 ? 3", "1 ? 2 ? 3 : 4", "1 ? 2 ? 3 : 4 :", "1 : 2 ? 3",
		"(1 ? 2) : 3", "1 ? (2 : 3)", "1 ? 2 : (3", "(1 ? 2 : 3", "1 ? 2 : 3)", "(1 ? 2 :) 3", "1 (? 2 : 3)", "1 ? 2 , 3 : 4", "1 ? (2) (: 3)", "1 ? 2 ) : ( 3", "(1 ? (2 : 3))", "1 ? 2 : 3 4", "1 ? 2 3 : 4", "1 2 ? 3 : 4", "1 ?: 2")
}

func TestBrackets(t *testing.T) {
	wantSigned(t, map[string]int64{"(1)": 1, "((1))": 1, "(1 + 2) * 3": 9, "1 + (2 * 3)": 7, "(1) + (2)": 3, "((1) + 2) * ((3))": 9, "(1 ? 2 : 3) * 2": 4, "(((x)))": 0})
	wantErrors(t, api.ErrCond, "(", ")", "()", "( )", "(1", "1)", "((1)", "(1))", "(()", "())", ")(", ")1(", "(1)(2)", "(1) 2", "1 (2)", "1 ()", "() 1", "1 + ()", "(1 +) 2", "1 (+ 2)", "(1 + 2", "1 + 2)", "1 + (2", "(1, 2)", "((1) + (2)", "-()", "[1]", "{1}")
}

func TestListsThatEndTooEarlyOrTooLate(t *testing.T) {
	for _, level := range binaries() {
		for _, operator := range level {
			behind := []string{operator, "1 " + operator, "1 " + operator + " )", "(1 " + operator + ") 1", "1 " + operator + " ? 1 : 1", "1 ? 1 " + operator + " : 1", "1 " + operator + " 1 1", "1 1 " + operator + " 1", "( " + operator + " )"}
			if !strings.Contains("+-", operator) {
				behind = append(behind, operator+" 1", "1 "+operator+" "+operator+" 1", "("+operator+" 1)", "1 ? "+operator+" 1 : 1")
			}
			wantErrors(t, api.ErrCond, behind...)
		}
	}
	wantErrors(t, api.ErrCond, "1 1", "1 2 3", "'a' 'b'", "1 'a'", "x 1", "1 + 2 3", "1 + 2 x", "1;", "1 = 1", "x = 1", "x += 1", "1, 1", "1 #", "# 1")
}

// P7.1: depths

// nested is a text within others, n times.
func nested(n int, ahead, inside, behind string) string {
	return strings.Repeat(ahead, n) + inside + strings.Repeat(behind, n)
}

// shape is what makes what it stands around one deeper.
type shape struct{ ahead, behind string }

// shapes are some of each kind.
func shapes() []shape {
	return []shape{{"(", ")"}, {"- ", ""}, {"+ ", ""}, {"!", ""}, {"~", ""}, {"1?1:", ""}, {"1?", ":1"}, {"0?1:", ""}, {"x?", ":1"}}
}

// around is a text within a shape, which may stand beside any operator.
func (s shape) around(n int, inside string) string {
	text := nested(n, s.ahead, inside, s.behind)
	if strings.Contains(s.ahead, "?") {
		text = "(" + text + ")"
	}
	return text
}

// depth is how deep a 1 is within a shape n times.
func (s shape) depth(n int) int {
	if strings.Contains(s.ahead, "?") {
		n++
	}
	return 1 + n
}

// wantDepth says what has a depth.
func wantDepth(t *testing.T, depth int, text string) {
	t.Helper()
	want := api.OK
	if depth > api.MaxDepth {
		want = api.ErrDepth
	}
	if v, u, e := cond.Value(list(t, text)); e != want || e != api.OK && (v != 0 || u) {
		t.Errorf("a depth of %d, %.40s: %d, %v, %v", depth, text, v, u, e)
	}
	if h, e := cond.Holds(list(t, text)); e != want || e != api.OK && h {
		t.Errorf("a depth of %d, %.40s: %v, %v", depth, text, h, e)
	}
}

// places are places of @ in texts, and how much deeper than what stands there the whole is.
func places() map[string]int {
	return map[string]int{
		"@": 0, "@ + 1": 0, "2 * @": 0, "1 + 2 * @ - 3": 0, "- 1 + 2 * @": 0, "(1) + @": 0, "@ * (- 1)": 0, "0 && @": 0, "1 || @": 0, "0 && 1 || 0 && @": 0, "@ || (1 ? 2 : 3)": 0, "(1 ? 2 : 3) + @": 0,
		"(@)": 1, "-@": 1, "+@": 1, "!@": 1, "~@": 1, "- 1 + (@)": 1, "(@ + 1) * (1)": 1, "0 && (@)": 1, "-(1) + -@": 1, "!@ + - - 1": 1,
		"@ ? 1 : 2": 1, "1 ? @ : 2": 1, "1 ? 2 : @": 1, "0 ? @ : 2": 1, "0 ? 1 : @": 1, "0 && @ ? 1 : 2": 1, "@ + 1 ? 1 : 2": 1, "1 + @ ? 1 : 2": 1, "-(1 ? 1 : 1) + @ ? 2 : 3": 1, "1 ? 1 + @ : 2": 1, "1 ? 2 : @ + 1": 1,
		"1 ? 2 ? 3 : 4 : @": 1, "1 ? @ : 1 ? 2 : 3": 1, "(1 ? 2 : 3) ? 4 : @": 1, "@ ? 1 ? 2 : 3 : 4": 1, "@ ? 1 : 1 ? 2 : 3": 1, "(1 ? 2 : @)": 2, "(@ ? 1 : 2)": 2,
		"1 ? 2 : @ ? 3 : 4": 2, "1 ? 2 : 1 ? @ : 3": 2, "1 ? 2 : 1 ? 3 : @": 2, "1 ? @ ? 2 : 3 : 4": 2, "1 ? 1 ? 2 : @ : 3": 2, "1 ? 1 ? @ : 2 : 3": 2, "1 ? -@ : 2": 2, "-@ ? 1 : 2": 2, "1 ? 2 : !@": 2, "-(@)": 2, "- ! @": 2, "((@))": 2,
		"- (1 ? 2 : @) ? 3 : 4": 4, "1 ? 2 : 1 ? 3 : 1 ? 4 : (@)": 4, "(1 ? 2 : @) ? 3 : 4": 3, "-(-(@))": 4, "1 ? (1 ? (@) : 2) : 3": 4,
	}
}

func TestDepths(t *testing.T) {
	for place, more := range places() {
		for _, s := range shapes() {
			for n := range 260 {
				if depth := s.depth(n) + more; n < 2 || depth > 253 {
					wantDepth(t, depth, strings.ReplaceAll(place, "@", " "+s.around(n, "1")))
				}
			}
		}
	}
}

func TestDepthsOfMixedShapes(t *testing.T) {
	for _, a := range shapes() {
		for _, b := range shapes() {
			for _, n := range []int{10, 60, 62, 63, 64, 65, 84, 85, 86, 126, 127, 128, 129} {
				inside, depth := "1", 1
				for range n {
					inside, depth = a.around(1, b.around(1, inside)), depth+a.depth(1)+b.depth(1)-2
				}
				wantDepth(t, depth, inside)
			}
		}
	}
}

// Operators between two parts, however many, make nothing deeper.
func TestDepthOfLongLists(t *testing.T) {
	for _, level := range binaries() {
		for _, operator := range level {
			l := list(t, "3"+strings.Repeat(" "+operator+" 1", 5000))
			if _, _, e := cond.Value(l); e != api.OK {
				t.Error(operator, e)
			}
		}
	}
	for text, want := range map[string]int64{nested(255, "(", "1", ")"): 301, nested(255, "- ", "1", ""): -301} {
		l := list(t, text)
		l = append(l, slices.Repeat(append(list(t, "+"), l...), 300)...)
		if v, u, e := cond.Value(l); v != bits(want) || u || e != api.OK {
			t.Errorf("%.40s: %d, %v, %v", text, v, u, e)
		}
	}
}

func TestHugeLists(t *testing.T) {
	t.Parallel()
	one := list(t, "1")
	for _, s := range shapes() {
		ahead, behind := list(t, s.ahead), list(t, s.behind)
		for _, n := range []int{1 << 16, 1 << 18} {
			l := slices.Concat(slices.Repeat(ahead, n), one, slices.Repeat(behind, n))
			wantErrorOf(t, api.ErrDepth, l)
			wantErrorOf(t, api.ErrCond, append(l, one...))
			wantErrorOf(t, api.ErrCond, slices.Concat(slices.Repeat(ahead, n), slices.Repeat(behind, n)))
		}
	}
	n := 1 << 18
	l := slices.Concat(one, slices.Repeat(list(t, "+ 1"), n))
	if v, u, e := cond.Value(l); v != uint64(n)+1 || u || e != api.OK {
		t.Error(v, u, e)
	}
	wantErrorOf(t, api.ErrCond, l[:len(l)-1])
	wantErrorOf(t, api.ErrCond, append(l, one...))
}

// P7.1: values

// numbers are texts and what they are worth, at the ends of what there is and about them.
func numbers() map[string]worth {
	l := map[string]worth{}
	for _, n := range []uint64{0, 1, 2, 3, 7, 62, 63, 64, 65, 1<<31 - 1, 1 << 31, 1<<32 - 1, 1 << 32, greatest - 1, greatest, least, least + 1, most - 63, most - 1, most} {
		l[strconv.FormatUint(n, 10)+"u"] = worth{n, unsigned}
		switch {
		case n < least:
			l[strconv.FormatUint(n, 10)] = worth{n, signed}
		case n == least:
			l["(-9223372036854775807 - 1)"] = worth{n, signed}
		default:
			l["-"+strconv.FormatUint(-n, 10)] = worth{n, signed}
		}
	}
	return l
}

func TestNumbersAreWorthThemselves(t *testing.T) {
	if len(numbers()) != 40 {
		t.Fatal(len(numbers()))
	}
	wantWorths(t, numbers())
}

func TestEachOperatorOnEachSide(t *testing.T) {
	fine := 0
	for a := range numbers() {
		for _, operator := range []string{"+", "-", "!", "~", "- -", "~ -", "! !", "- ~"} {
			alsoWanted(t, list(t, operator+"("+a+")"))
		}
		for b := range numbers() {
			for _, level := range binaries() {
				for _, operator := range level {
					if alsoWanted(t, list(t, a+" "+operator+" "+b)) == api.OK {
						fine++
					}
				}
			}
			for _, asked := range []string{"0", "1", "0u", "-1"} {
				alsoWanted(t, list(t, asked+" ? "+a+" : "+b))
			}
		}
	}
	if fine < 25000 {
		t.Error("too few are worth something:", fine)
	}
}

func TestZero(t *testing.T) {
	for s := range numbers() {
		wantErrors(t, api.ErrZero, s+" / 0", s+" % 0", s+" / 0u", s+" % 0u", s+" / x", s+" % (1 - 1)", s+" / !1", s+" / '\\0'")
	}
}

func TestShifts(t *testing.T) {
	wantSigned(t, map[string]int64{
		"5 << 0": 5, "5 >> 0": 5, "1 << 62": 1 << 62, "1 << 63": math.MinInt64, "-1 >> 63": -1, "-2 >> 1": -1, "-3 >> 1": -2, "1 >> 63": 0, "9223372036854775807 >> 62": 1, "(1 << 63) >> 63": -1, "-5 << 1": -10,
		"1 << 3u": 8, "-8 >> 1u": -4, "1 << 63u": math.MinInt64, "-1 >> 63u": -1, "0 << 63": 0,
	})
	wantWorths(t, map[string]worth{"5u << 0": {5, unsigned}, "5u >> 0": {5, unsigned}, "1u << 63": {least, unsigned}, "3u << 63": {least, unsigned}, "18446744073709551615u >> 63": {1, unsigned}, "18446744073709551615u >> 1": {greatest, unsigned}, "-1u >> 1": {greatest, unsigned}})
	for s := range numbers() {
		for _, by := range []string{"64", "65", "-1", "-63", "-64", "64u", "18446744073709551615u", "9223372036854775807", "(-9223372036854775807 - 1)", "-1u", "4294967296", "256"} {
			wantErrors(t, api.ErrCond, s+" << "+by, s+" >> "+by)
		}
		for _, by := range []string{"0", "1", "63", "0u", "63u", "x", "'\\x3f'"} {
			for _, operator := range []string{" << ", " >> "} {
				if e := alsoWanted(t, list(t, s+operator+by)); e != api.OK {
					t.Error(s, operator, by, e)
				}
			}
		}
	}
}

// failing are expressions in whose evaluation an error occurs.
func failing() map[string]api.Errno {
	return map[string]api.Errno{"1 / 0": api.ErrZero, "1 % 0u": api.ErrZero, "1 << 64": api.ErrCond, "1 >> -1": api.ErrCond}
}

func TestOnlyWhatIsNeeded(t *testing.T) {
	for s := range failing() {
		wantSigned(t, map[string]int64{
			"0 && " + s: 0, "1 || " + s: 1, "0 && (" + s + ")": 0, "2 || (" + s + ")": 1, "0u && " + s: 0, "-1 || " + s: 1,
			"1 && 0 && " + s: 0, "0 && " + s + " && " + s: 0, "0 || 1 || " + s: 1, "1 || " + s + " || " + s: 1, "0 && " + s + " || 1": 1, "1 || " + s + " && " + s: 1, "(1 || " + s + ") && 0": 0,
			"1 || 0 && " + s: 1, "0 && (1 || " + s + ")": 0, "0 && (" + s + " || 1)": 0, "1 || !(" + s + ")": 1, "0 && -(1 + ~(" + s + "))": 0, "1 || (0 ? " + s + " : " + s + ")": 1,
			"1 || " + s + " ? 2 : 3": 2, "0 && " + s + " ? 2 : 3": 3, "0 && (" + s + ") / 0": 0, "0 && 1 << (" + s + ")": 0,
		})
		for _, c := range []string{"1 ? 2 : " + s, "0 ? " + s + " : 2", "1 ? 1 ? 2 : " + s + " : " + s, "0 ? " + s + " : 0 ? " + s + " : 2", "0 ? 1 ? " + s + " : " + s + " : 2", "0 ? (" + s + " ? " + s + " : " + s + ") : 2", "1 ? 2 : (1 ? " + s + " : 3)", "1 ? 2 : 1 ? " + s + " : 3", "1 ? 0 ? " + s + " : 2 : " + s} {
			v, _, e := cond.Value(list(t, c))
			if v != 2 || e != api.OK {
				t.Errorf("%s: %d, %v", c, v, e)
			}
		}
	}
}

func TestWhatIsNeeded(t *testing.T) {
	for s, e := range failing() {
		wantErrors(t, e, s, "("+s+")", "-("+s+")", "!("+s+")", "+("+s+")", "1 && "+s, "0 || "+s, s+" && 0", s+" || 1", "1 && "+s+" && 0", "0 || "+s+" || 1", "1 && ("+s+")", "0 && 1 || "+s, "1 || 0 ? "+s+" : 2",
			"1 ? "+s+" : 2", "0 ? 2 : "+s, "("+s+") ? 1 : 1", s+" ? 1 : 1", "1 + ("+s+")", "("+s+") * 0", "0 * ("+s+")", "("+s+") == ("+s+")", "1 << ("+s+")", "("+s+") << 1", "0 / ("+s+")", "0 & ("+s+")", "1 ? 1 ? "+s+" : 2 : 3", "0 ? 1 : 0 ? 2 : "+s, "1 || 0 && 1 ? "+s+" : 2",
			"1 && 1 || "+s+" ? "+s+" : 1", "(0 && 1) || "+s, "(1 || "+s+") && "+s, "1 < ("+s+")", "1 | ("+s+")", "1 ^ ("+s+")")
	}
}

// What is not evaluated still has its signedness.
func TestSignednessOfWhatIsNotEvaluated(t *testing.T) {
	wantWorths(t, map[string]worth{
		"1 ? -1 : 1u / 0": {most, unsigned}, "1 ? -1 : 1 / 0u": {most, unsigned}, "1 ? -1 : 1 % 0": {most, signed}, "0 ? 1u % 0 : -1": {most, unsigned}, "1 ? -1 : 1u << 64": {most, unsigned}, "1 ? -1 : 1 << 64u": {most, signed}, "1 ? -1 : 1u >> -1": {most, unsigned},
		"1 ? -1 : (1 / 0 ? 1u : 2)": {most, unsigned}, "1 ? -1 : (1u / 0 ? 1 : 2)": {most, signed}, "1 ? -1 : 1 + (1u / 0)": {most, unsigned}, "1 ? -1 : -(1u / 0)": {most, unsigned}, "1 ? -1 : !(1u / 0)": {most, signed}, "1 ? -1 : ~(1 / 0u)": {most, unsigned},
		"1 ? -1 : (0 && 1u / 0)": {most, signed}, "1 ? -1 : (1u || 1u)": {most, signed}, "1 ? -1 : (1u / 0 < 1u)": {most, signed}, "(1 ? -1 : 1 / 0u) / 2": {greatest, unsigned}, "(1 ? -1 : 1 / 0u) < 0": {0, signed}, "(1 ? -1 : 1 / 0) < 0": {1, signed},
		"(0 && 1u) - 1": {most, signed}, "(1 || 1u) - 2": {most, signed}, "(1u && 0u) - 1 < 0": {1, signed},
	})
}

func TestFirstError(t *testing.T) {
	wantErrors(t, api.ErrZero, "1 / 0 + (1 << 64)", "(1 / 0) << 64", "1 / 0 << 64", "1 << 1 / 0", "1 << (1 % 0)", "(1 / 0) / (1 << 64)", "1 / 0 && 1 << 64", "1 / 0 || 1 << 64", "1 / 0 ? 1 << 64 : 1", "1 / 0 ? 1 : 1 << 64", "1 ? 1 / 0 : 1 << 64", "0 ? 1 << 64 : 1 / 0", "0 && 1 << 64 || 1 / 0",
		"1 || 1 << 64 ? 1 / 0 : 2", "-(1 % 0) + (1 >> 64)", "1 + 2 * (3 - 4 / 0) << 64", "1 / (2 / 0) << 64", "1 / 0 == 1 << 64")
	wantErrors(t, api.ErrCond, "(1 << 64) + 1 / 0", "(1 << 64) / 0", "1 << 64 == 1 / 0", "(1 >> -1) % 0", "1 << 64 && 1 / 0", "1 << 64 || 1 / 0", "1 << 64 ? 1 / 0 : 1", "1 ? 1 << 64 : 1 / 0", "0 ? 1 / 0 : 1 << 64", "0 && 1 / 0 || 1 << 64", "1 / (1 << 64)", "1 / (1 << 64) + 1 / 0", "(1 >> 99) >> (1 / 0)")
}

// An error of the evaluation comes behind those of what the list is.
func TestErrorsAheadOfTheEvaluation(t *testing.T) {
	deep, hanging := nested(256, "(", "1", ")"), []api.PTok{{Kind: api.Line, Text: "1"}}
	for s := range failing() {
		wantErrors(t, api.ErrDepth, s+" + "+deep, "("+s+") + "+deep, deep+" + ("+s+")", "1 && ("+s+") && "+deep, nested(256, "- ", "("+s+")", ""))
		wantErrors(t, api.ErrCond, s+" +", s+" )", "( "+s, s+" 1", s+" , 1", s+" + 1.0", s+" + "+deep+" +", deep+" + "+s+" 1", deep+")", "("+deep, deep+" "+s, s+" ? 1")
		for _, l := range [][]api.PTok{slices.Concat(list(t, s+" + "), hanging), slices.Concat(hanging, list(t, " + "+s)), slices.Concat(list(t, s+" + "+deep+" +"), hanging), slices.Concat(list(t, s+" + ) 1.0"), hanging)} {
			wantErrorOf(t, api.ErrLayout, l)
		}
	}
}

// P7.2

func TestArgumentsAreOnlyRead(t *testing.T) {
	texts := []string{"", "1", "1 + 2 * 3", "(1 ? 2 : x) << -'a'", "1 / 0", "(1", "1.0 + 2", "[ 1 ]", "<: 1 :>", "~0u && !x || 5 % 3", "1 << 64", nested(300, "(", "1", ")")}
	for _, s := range texts {
		l := list(t, s)
		for i := range l {
			l[i].Parts, l[i].Space = []string{"a", "b"}, i%3 == 0
		}
		room := append(slices.Clone(l), api.PTok{Kind: 77, Text: "behind", Parts: []string{"c"}}, api.PTok{Kind: 78})
		before := slices.Clone(room)
		for i := range before {
			before[i].Parts = slices.Clone(before[i].Parts)
		}
		cond.Value(room[:len(l)])
		cond.Holds(room[:len(l)])
		if !reflect.DeepEqual(room, before) {
			t.Errorf("%s has been changed", s)
		}
	}
}

func TestTheSameAgain(t *testing.T) {
	l := list(t, "1 ? 2u : 1 / 0")
	for range 3 {
		if v, u, e := cond.Value(l); v != 2 || !u || e != api.OK {
			t.Error(v, u, e)
		}
		wantErrors(t, api.ErrZero, "1 / 0")
		wantErrors(t, api.ErrCond, "1 +")
	}
}
