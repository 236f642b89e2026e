package ctok_test

import (
	"math"
	"slices"
	"strconv"
	"strings"
	"testing"
	"unsafe"

	"reglet/api"
	"reglet/ctok"
	"reglet/scan"
)

// integer is what Int answers.
type integer struct {
	value    uint64
	unsigned bool
}

const (
	signed   = false
	unsigned = true
)

func wantInts(t *testing.T, of map[string]integer) {
	t.Helper()
	for s, want := range of {
		if v, u, e := ctok.Int(s); e != api.OK || v != want.value || u != want.unsigned {
			t.Errorf("Int(%q): %d, %v, %v, not %v", s, v, u, e, want)
		}
	}
}

func wantNoInts(t *testing.T, texts ...string) {
	t.Helper()
	for _, s := range texts {
		if v, u, e := ctok.Int(s); e != api.ErrConst || v != 0 || u {
			t.Errorf("Int(%q): %d, %v, %v", s, v, u, e)
		}
	}
}

func wantChars(t *testing.T, of map[string]int64) {
	t.Helper()
	for s, want := range of {
		if v, e := ctok.Char(s); e != api.OK || v != want {
			t.Errorf("Char(%q): %d, %v, not %d", s, v, e, want)
		}
	}
}

func wantNoChars(t *testing.T, texts ...string) {
	t.Helper()
	for _, s := range texts {
		if v, e := ctok.Char(s); e != api.ErrConst || v != 0 {
			t.Errorf("Char(%q): %d, %v", s, v, e)
		}
	}
}

func wantStrs(t *testing.T, of map[string][]int64) {
	t.Helper()
	for s, want := range of {
		if l, e := ctok.Str(s); e != api.OK || !slices.Equal(l, want) {
			t.Errorf("Str(%q): %v, %v, not %v", s, l, e, want)
		}
	}
}

func wantNoStrs(t *testing.T, texts ...string) {
	t.Helper()
	for _, s := range texts {
		if l, e := ctok.Str(s); e != api.ErrConst || len(l) != 0 {
			t.Errorf("Str(%q): %v, %v", s, l, e)
		}
	}
}

// P4.1

func TestKeyword(t *testing.T) {
	if n := len(keywords()); n != 44 {
		t.Fatal(n)
	}
	for _, k := range keywords() {
		if !ctok.Keyword(k) {
			t.Errorf("%q is no keyword", k)
		}
	}
}

// Each text beside a keyword is asked for: one letter more, one less, another one, another case, another place.
func TestTextsThatDifferFromKeywords(t *testing.T) {
	is := map[string]int{}
	for _, k := range keywords() {
		is[k] = 1
	}
	letters := "_abcdefghijklmnopqrstuvwxyzABCDEFGHIJKLMNOPQRSTUVWXYZ0189 \n\x00"
	for _, k := range keywords() {
		beside := []string{strings.ToUpper(k), strings.ToLower(k), "_" + k, "__" + k, k + "_", strings.TrimLeft(k, "_"), " " + k, k + " ", k + k}
		for i := range len(k) + 1 {
			for _, letter := range letters {
				beside = append(beside, k[:i]+string(letter)+k[i:])
				if i < len(k) {
					beside = append(beside, k[:i]+string(letter)+k[i+1:])
				}
			}
			if i < len(k) {
				beside = append(beside, k[:i]+k[i+1:], k[:i]+strings.ToUpper(k[i:i+1])+k[i+1:], k[:i]+strings.ToLower(k[i:i+1])+k[i+1:], k[i:]+k[:i])
			}
		}
		for _, s := range beside {
			if got := ctok.Keyword(s); got != (is[s] == 1) {
				t.Errorf("Keyword(%q): %v", s, got)
			}
		}
	}
}

func TestNoKeywords(t *testing.T) {
	for _, s := range []string{"", "_", "Int", "INT", "main", "asm", "fortran", "typeof", "bool", "alignas", "alignof", "noreturn",
		"static_assert", "thread_local", "nullptr", "constexpr", "true", "define", "include", "_atomic", "_ALIGNAS", "_Static_Assert", "_Decimal32", "1"} {
		if ctok.Keyword(s) {
			t.Errorf("%q is a keyword", s)
		}
	}
}

func TestCanon(t *testing.T) {
	for s, want := range spellings() {
		if got := ctok.Canon(s); got != want {
			t.Errorf("Canon(%q): %q, not %q", s, got, want)
		}
	}
}

func TestCanonOfOtherTexts(t *testing.T) {
	visit := func(s string) {
		want, second := spellings()[s]
		if !second {
			want = s
		}
		if got := ctok.Canon(s); got != want {
			t.Errorf("Canon(%q): %q, not %q", s, got, want)
		}
	}
	everyText(strings.Fields("< : > % # [ ] { } ??( a"), 5, visit)
	for _, s := range []string{"int", "'<:'", "\"%:\"", " <:", "<: ", "%: %:", "%:%", "%:%:%:", "\n", "\x00", strings.Repeat("<:", 1000)} {
		visit(s)
	}
}

// P4.2

func TestIntExamples(t *testing.T) {
	wantInts(t, map[string]integer{
		"0x1F":                  {31, signed},
		"017":                   {15, signed},
		"0":                     {0, signed},
		"1ul":                   {1, unsigned},
		"1LLU":                  {1, unsigned},
		"18446744073709551615u": {math.MaxUint64, unsigned},
		"0xffffffffffffffff":    {math.MaxUint64, unsigned},
	})
	wantNoInts(t, "08", "1lul", "18446744073709551615")
}

func TestIntOfEachBase(t *testing.T) {
	wantInts(t, map[string]integer{
		"1": {1, signed}, "9": {9, signed}, "1234567890": {1234567890, signed}, "900": {900, signed},
		"00": {0, signed}, "000": {0, signed}, "01": {1, signed}, "07": {7, signed}, "0012345670": {2739128, signed}, "00777": {511, signed},
		"0x0": {0, signed}, "0X0": {0, signed}, "0x00": {0, signed}, "0x1234567": {0x1234567, signed}, "0x89abcdef": {0x89abcdef, signed},
		"0XABCDEF": {0xabcdef, signed}, "0xaBcDeF": {0xabcdef, signed}, "0x1e5": {0x1e5, signed}, "0xe": {14, signed}, "0xf": {15, signed}, "0x1F": {31, signed},
	})
	wantNoInts(t, "08", "09", "008", "009", "018", "0179", "08u", "00000000000000000000008",
		"0x", "0X", "0xg", "0xu", "0xl", "0xULL", "0x-1", "0x 1", "x1", "0xx1", "00x1", "1x1", "0b1", "0o1", "0x0x1", "0x1g")
}

func TestIntOfEachSuffix(t *testing.T) {
	us, longs := []string{"u", "U"}, []string{"l", "ll", "L", "LL"}
	for digits, value := range map[string]uint64{"0": 0, "00": 0, "7": 7, "10": 10, "010": 8, "0x10": 16, "0Xa": 10} {
		for _, u := range us {
			wantInts(t, map[string]integer{digits + u: {value, unsigned}})
			for _, l := range longs {
				wantInts(t, map[string]integer{digits + l: {value, signed}, digits + u + l: {value, unsigned}, digits + l + u: {value, unsigned}})
			}
		}
	}
}

func TestIntOfNoSuffix(t *testing.T) {
	for _, digits := range []string{"0", "1", "07", "0x1", "0xff"} {
		for _, s := range []string{"lL", "Ll", "lll", "LLL", "lLl", "uu", "uU", "Uu", "UU", "lul", "LUL", "lull", "llul", "ulu", "uLLu", "ulL", "Llu", "lLu",
			"uuu", "llll", "lulu", "z", "uz", "i64", "_", "u_", " ", "u ", " u", "u l", "\n", "'", ".", "p", "-", "+1", "\x00", "\xf5"} {
			wantNoInts(t, digits+s)
		}
	}
}

func TestIntAboutBounds(t *testing.T) {
	wantInts(t, map[string]integer{
		"9223372036854775806":        {math.MaxInt64 - 1, signed},
		"9223372036854775807":        {math.MaxInt64, signed},
		"9223372036854775807ll":      {math.MaxInt64, signed},
		"9223372036854775807u":       {math.MaxInt64, unsigned},
		"9223372036854775808u":       {math.MaxInt64 + 1, unsigned},
		"9223372036854775808LLU":     {math.MaxInt64 + 1, unsigned},
		"18446744073709551614U":      {math.MaxUint64 - 1, unsigned},
		"18446744073709551615uLL":    {math.MaxUint64, unsigned},
		"0777777777777777777777":     {math.MaxInt64, signed},
		"0777777777777777777777u":    {math.MaxInt64, unsigned},
		"0777777777777777777777L":    {math.MaxInt64, signed},
		"01000000000000000000000":    {math.MaxInt64 + 1, unsigned},
		"01000000000000000000000l":   {math.MaxInt64 + 1, unsigned},
		"01000000000000000000000u":   {math.MaxInt64 + 1, unsigned},
		"01777777777777777777777":    {math.MaxUint64, unsigned},
		"01777777777777777777777LL":  {math.MaxUint64, unsigned},
		"01777777777777777777777U":   {math.MaxUint64, unsigned},
		"00001777777777777777777777": {math.MaxUint64, unsigned},
		"0x7fffffffffffffff":         {math.MaxInt64, signed},
		"0x7fffffffffffffffu":        {math.MaxInt64, unsigned},
		"0x7FFFFFFFFFFFFFFFll":       {math.MaxInt64, signed},
		"0x8000000000000000":         {math.MaxInt64 + 1, unsigned},
		"0x8000000000000000L":        {math.MaxInt64 + 1, unsigned},
		"0x8000000000000000U":        {math.MaxInt64 + 1, unsigned},
		"0XFFFFFFFFFFFFFFFF":         {math.MaxUint64, unsigned},
		"0xffffffffffffffffu":        {math.MaxUint64, unsigned},
		"0x0000ffffffffffffffff":     {math.MaxUint64, unsigned},
	})
	wantNoInts(t, "9223372036854775808", "9223372036854775808l", "9223372036854775808LL", "10000000000000000000", "18446744073709551615ll",
		"18446744073709551616", "18446744073709551616u", "18446744073709551616ull", "18446744073709551620u", "20000000000000000000u", "184467440737095516150u",
		"36893488147419103233u", "340282366920938463463374607431768211457u",
		"02000000000000000000000", "02000000000000000000000u", "02000000000000000000001", "04000000000000000000001", "017777777777777777777777", "020000000000000000000000l",
		"0x10000000000000000", "0x10000000000000000u", "0x10000000000000001", "0xffffffffffffffff0", "0x100000000000000000000000000000001LL")
}

func TestIntOfLongTexts(t *testing.T) {
	zeros, nines := strings.Repeat("0", 100000), strings.Repeat("9", 100000)
	wantInts(t, map[string]integer{zeros: {0, signed}, zeros + "17": {15, signed}, "0x" + zeros + "ffu": {255, unsigned}})
	wantNoInts(t, nines, nines+"u", "1"+zeros, "0"+strings.Repeat("7", 100000), "0x"+strings.Repeat("f", 100000), "1"+strings.Repeat("l", 100000), zeros+"8")
}

func TestIntOfWrongTexts(t *testing.T) {
	wantNoInts(t, "", " ", "u", "l", "ul", "-", "-1", "+1", " 1", "1 ", "1\n", "1 2", "1.", ".1", "1.0", "1e1", "1f", "0x1p1", "0x.", "a", "f", "F1", "'1'", "\"1\"",
		"1'0", "1_0", "1,0", "\x00", "1\x00", "\xb1", "\uff11", "1\uff11", "0?", "\\061", "(1)")
}

func TestIntOfManyTexts(t *testing.T) {
	manyNumbers(func(s string) {
		value, unsigned, e := wantInt(s)
		if v, u, f := ctok.Int(s); v != value || u != unsigned || f != e {
			t.Fatalf("Int(%q): %d, %v, %v, not %d, %v, %v", s, v, u, f, value, unsigned, e)
		}
	})
}

func TestFloats(t *testing.T) {
	for _, s := range []string{
		"1.", ".5e-3f", "1e5", "0x.8p0",
		"1.5", ".5", "0.", ".0", "0.0", "00.", "08.", "089.9", "123.456", "9.9",
		"1e0", "1E5", "1e+5", "1e-5", "1E+05", "0e0", "08e1", "1e0123456789", "1.e1", "1.5E-10", ".5e+1", ".0e0",
		"0x1p1", "0X1P1", "0x1p+1", "0x1P-1", "0x1.p1", "0x.1p1", "0x1.8p1", "0xa.Bp09", "0XF.fP0", "0xfp1", "0x0p0", "0xep1", "0x1ep1", "0x1.ep1",
	} {
		for _, suffix := range []string{"", "f", "F", "l", "L"} {
			if strings.HasSuffix(s, "f") && suffix != "" {
				continue
			}
			if !ctok.Float(s + suffix) {
				t.Errorf("%q is no floating constant", s+suffix)
			}
		}
	}
}

func TestNoFloats(t *testing.T) {
	for _, s := range []string{
		"0x1.8", "1", "1e",
		"", ".", "..", "1..", "..1", "1.2.3", "1..2", ".1.", ".e1", ".f", "e1", "e", "f", "0", "00", "08", "1f", "1L", "1l", "10F",
		"1.e", "1.5e", ".5e", "1e+", "1e-", "1e+-1", "1e++1", "1ee1", "1e1e1", "1e1.", "1e.1", "1e1.5", "1e 1", "1 e1", "1e0x1", "1ea", "1p1", "1.p1", "1.5P1", "1e1p1",
		"1.ff", "1.fl", "1.lf", "1.ll", "1.LL", "1.u", "1.fu", "1e1u", "1e1ll", "1.5d", "1.5e1_", "1.f1", "1.e1f1",
		"0x", "0x.", "0x1", "0x1.", "0x.1", "0x1f", "0x1.f", "0x1.8f", "0xp1", "0x.p1", "0x1p", "0x1p+", "0x1.p", "0x1.8p-", "0x1e1", "0x1e+1", "0x1.e1", "0x1.8e+1",
		"0x1..p1", "0x1.2.p1", "0x.1.p1", "0x1pa", "0x1pf", "0x1p1.", "0x1p1p1", "0x1p1ff", "0x1p1u", "0xg.1p1", "0x1gp1", "x1p1", "0x0x1p1", "00x1p1", "1x1p1", "0b1p1", "0x1p1a",
		"-1.", "+1.", " 1.", "1. ", "1.\n", "1.5\x00", "\x001.5", "1,5", "1'0.5", "1_0.5", "inf", "nan", "INFINITY", "a.b", "'1.'", "\"1.\"", "\uff11.", "1.\uff15", "\xb1.",
	} {
		if ctok.Float(s) {
			t.Errorf("%q is a floating constant", s)
		}
	}
}

func TestFloatOfManyTexts(t *testing.T) {
	manyNumbers(func(s string) {
		if got, want := ctok.Float(s), floats.MatchString(s); got != want {
			t.Fatalf("Float(%q): %v, not %v", s, got, want)
		}
	})
}

func TestFloatOfLongTexts(t *testing.T) {
	digits := strings.Repeat("9", 100000)
	for s, want := range map[string]bool{
		digits + ".": true, "." + digits: true, digits + "." + digits: true, "1e" + digits: true, "1.e-" + digits + "L": true, "0x" + digits + "p" + digits: true,
		digits: false, digits + digits: false, "0x" + digits + "." + digits: false, digits + "e": false, digits + "." + digits + ".": false,
	} {
		if got := ctok.Float(s); got != want {
			t.Errorf("Float(%.20q): %v", s, got)
		}
	}
}

// P4.3

func TestCharExamples(t *testing.T) {
	wantChars(t, map[string]int64{`'a'`: 97, `'\xff'`: -1, `'ab'`: 24930, `L'\xff'`: 255})
	wantNoChars(t, `'\400'`, `u'ab'`)
}

func TestCharOfEachEscape(t *testing.T) {
	for behind, n := range simple {
		for _, prefix := range []string{"", "u", "U", "L"} {
			wantChars(t, map[string]int64{prefix + "'\\" + behind + "'": n})
		}
		wantChars(t, map[string]int64{"'\\" + behind + "\\" + behind + "'": n<<8 + n, "'a\\" + behind + "b'": 97<<16 + n<<8 + 98})
	}
	if len(simple) != 11 {
		t.Error(simple)
	}
}

func TestCharOfEachByte(t *testing.T) {
	for c := range 256 {
		b := string([]byte{byte(c)})
		if b == "'" || b == "\\" || b == "\n" {
			wantNoChars(t, "'"+b+"'", "L'"+b+"'")
			continue
		}
		wantChars(t, map[string]int64{"'" + b + "'": int64(int8(c)), "u'" + b + "'": int64(c), "U'" + b + "'": int64(c), "L'" + b + "'": int64(c),
			"'" + b + b + "'": int64(int16(c<<8 + c))})
	}
}

// Of all bytes behind a \ it is those of the elements alone that make one.
func TestCharOfEachByteBehindBackslash(t *testing.T) {
	for c := range 256 {
		b := string([]byte{byte(c)})
		if _, is := simple[b]; is || strings.Contains("01234567", b) {
			continue
		}
		wantNoChars(t, "'\\"+b+"'", "L'\\"+b+"'", "'a\\"+b+"'")
		wantNoStrs(t, "\"\\"+b+"\"", "U\"a\\"+b+"z\"")
	}
	wantNoChars(t, `'\u0041'`, `'\U00000041'`, `u'\u00e9'`, `'\e'`, `'\8'`, `'\9'`, `'\X41'`, `'\N'`, `'\ '`, `'\`+"\xff"+`'`)
}

func TestCharOfOctalElements(t *testing.T) {
	wantChars(t, map[string]int64{
		`'\0'`: 0, `'\7'`: 7, `'\00'`: 0, `'\77'`: 63, `'\000'`: 0, `'\101'`: 65, `'\177'`: 127, `'\200'`: -128, `'\377'`: -1,
		`'\08'`: '8', `'\18'`: 1<<8 + '8', `'\778'`: 63<<8 + '8', `'\1018'`: 65<<8 + '8', `'\0000'`: '0', `'\1234'`: 83<<8 + '4', `'\3770'`: -256 + '0',
		`'\1a'`: 1<<8 + 'a', `'\1\2'`: 1<<8 + 2, `'\1\2\3\4'`: 1<<24 + 2<<16 + 3<<8 + 4, `'\07\07'`: 7<<8 + 7,
		`u'\377'`: 255, `u'\400'`: 256, `u'\777'`: 511, `U'\777'`: 511, `L'\777'`: 511, `L'\0'`: 0,
	})
	wantNoChars(t, `'\400'`, `'\777'`, `'a\400'`, `'\400a'`, `u'\0000'`, `U'\1234'`, `L'\08'`, `L'\8'`)
}

func TestCharOfHexadecimalElements(t *testing.T) {
	zeros := strings.Repeat("0", 100000)
	wantChars(t, map[string]int64{
		`'\x0'`: 0, `'\x41'`: 65, `'\x7f'`: 127, `'\x80'`: -128, `'\xfF'`: -1, `'\xAb'`: -85, `'\x000000000000000000041'`: 65, `'\x00ff'`: -1,
		`'\x` + zeros + `7'`: 7, `L'\x` + zeros + `ffffffff'`: math.MaxUint32,
		`'\x4g'`: 4<<8 + 'g', `'\x41\x42'`: 65<<8 + 66, `'\x4\x1'`: 4<<8 + 1, `'\x1\1'`: 1<<8 + 1, `'\x41x'`: 65<<8 + 'x',
		`u'\xff'`: 255, `u'\x100'`: 256, `u'\xffff'`: 65535, `u'\x0ffff'`: 65535,
		`U'\x10000'`: 65536, `U'\x80000000'`: 1 << 31, `U'\xffffffff'`: math.MaxUint32, `L'\xFFFFFFFF'`: math.MaxUint32, `L'\x00000000ffffffff'`: math.MaxUint32,
	})
	wantNoChars(t, `'\x'`, `'\xg'`, `'\x '`, `'\x-1'`, `'\x\x1'`, `'a\x'`, `L'\x'`, `'\x100'`, `'\x00100'`, `'\x101'`, `'\x10000000000000041'`, `'\x1`+zeros+`'`, `'\x414'`,
		`u'\x10000'`, `u'\x10041'`, `u'\x10000000000000041'`, `U'\x100000000'`, `L'\x100000000'`, `L'\x100000041'`, `U'\x10000000000000041'`, `L'\xffffffffff'`)
}

func TestCharOfManyElements(t *testing.T) {
	wantChars(t, map[string]int64{
		`'a'`: 97, `'ab'`: 97<<8 + 98, `'abc'`: 97<<16 + 98<<8 + 99, `'abcd'`: 97<<24 + 98<<16 + 99<<8 + 100,
		`'\n\t\\\''`: 10<<24 + 9<<16 + 92<<8 + 39, `'\0\0\0\0'`: 0, `'""'`: 34<<8 + 34, `'//'`: 47<<8 + 47, `'/**/'`: 47<<24 + 42<<16 + 42<<8 + 47,
		`'\0\0\0a'`: 97, `'uU'`: 'u'<<8 + 'U', `u'u'`: 'u', `L'L'`: 'L', `'??='`: 63<<16 + 63<<8 + 61,
	})
	wantNoChars(t, `'abcde'`, `'\0\0\0\0\0'`, `'\0abcd'`, `'\x41bcde'`, `'\'\'\'\'\''`, "'"+strings.Repeat("a", 100000)+"'",
		`u'ab'`, `U'ab'`, `L'ab'`, `L'abcd'`, `L'abcde'`, `u'\0\0'`, `L'\0a'`, `u''`, `U''`, `L''`, `''`)
}

func TestCharAboutBounds(t *testing.T) {
	wantChars(t, map[string]int64{
		`'\176'`: 126, `'\177'`: 1<<7 - 1, `'\200'`: -1 << 7, `'\201'`: -1<<7 + 1, `'\376'`: -2, `'\377'`: -1,
		`'\177\376'`: 1<<15 - 2, `'\177\377'`: 1<<15 - 1, `'\200\0'`: -1 << 15, `'\200\1'`: -1<<15 + 1, `'\377\377'`: -1, `'\0\200'`: 128, `'\0\377'`: 255,
		`'\177\377\376'`: 1<<23 - 2, `'\177\377\377'`: 1<<23 - 1, `'\200\0\0'`: -1 << 23, `'\200\0\1'`: -1<<23 + 1, `'\377\377\377'`: -1, `'\0\377\377'`: 65535, `'\0\200\0'`: 1 << 15,
		`'\177\377\377\376'`: 1<<31 - 2, `'\177\377\377\377'`: 1<<31 - 1, `'\200\0\0\0'`: -1 << 31, `'\200\0\0\1'`: -1<<31 + 1, `'\377\377\377\377'`: -1, `'\0\377\377\377'`: 1<<24 - 1,
		`'\0\200\0\0'`: 1 << 23, `L'\x7f'`: 127, `L'\x80'`: 128, `u'\x7fff'`: 1<<15 - 1, `u'\x8000'`: 1 << 15, `L'\x7fffffff'`: 1<<31 - 1, `L'\x80000000'`: 1 << 31, `u'\377'`: 255,
	})
}

func TestCharOfWrongTexts(t *testing.T) {
	wantNoChars(t, "", "a", "'", "''", "'a", "a'", "'''", "'a'b", "'a''b'", "'a' ", " 'a'", "'a'\n", "'\n'", "'a\n'", "'\\\n'", "'\\'", "'\\", "'a\\'", "\"a\"", "'a\"", "\"a'",
		"u8'a'", "l'a'", "LL'a'", "uU'a'", "u 'a'", "L\n'a'", "R'a'", "1'a'", "+'a'", "/**/'a'", "'a'/**/", "'a'u", "'a'_b", "L", "u", "U'", "<'>", "\x00'a'", "\u2018a\u2019")
}

func TestCharOfManyTexts(t *testing.T) {
	manyQuoted(func(s string) {
		want, e := wantChar(s)
		if v, f := ctok.Char(s); v != want || f != e {
			t.Fatalf("Char(%q): %d, %v, not %d, %v", s, v, f, want, e)
		}
	})
}

func TestStrExamples(t *testing.T) {
	wantStrs(t, map[string][]int64{`"a\0\18"`: {97, 0, 1, 56}, `u8""`: nil})
}

func TestStrOfEachPrefix(t *testing.T) {
	for _, prefix := range []string{"", "u8", "u", "U", "L"} {
		greatest := strconv.FormatInt(most[prefix], 16)
		wantStrs(t, map[string][]int64{
			prefix + `""`:                       nil,
			prefix + `"a"`:                      {97},
			prefix + `"ab\n'\""`:                {97, 98, 10, 39, 34},
			prefix + `"\x` + greatest + `"`:     {most[prefix]},
			prefix + `"a\x00` + greatest + `z"`: {97, most[prefix], 'z'},
			prefix + "\"\x80\xff\"":             {128, 255},
			prefix + `"\377\0"`:                 {255, 0},
		})
		wantNoStrs(t, prefix+`"\x`+strconv.FormatInt(most[prefix]+1, 16)+`"`, prefix+`"\x1`+greatest+`"`, prefix+`"\x"`, prefix+`"\8"`, prefix+`"a\u0041"`, prefix+`'a'`, prefix, prefix+`"`, prefix+`"\"`)
	}
	wantStrs(t, map[string][]int64{`u"\400\777"`: {256, 511}, `U"\777"`: {511}, `L"\400"`: {256}})
	wantNoStrs(t, `"\400"`, `u8"\400"`, `"a\777"`, `u8"\x100"`)
}

func TestStrOfEachElement(t *testing.T) {
	wantStrs(t, map[string][]int64{
		`"\'\"\?\\\a\b\f\n\r\t\v"`:            {39, 34, 63, 92, 7, 8, 12, 10, 13, 9, 11},
		`"'?abfnrtv"`:                         {39, 63, 97, 98, 102, 110, 114, 116, 118},
		`"\1\12\123\1234"`:                    {1, 10, 83, 83, '4'},
		`"\08\778\0000"`:                      {0, '8', 63, '8', 0, '0'},
		`"\x1\x12\x012g\xabg"`:                {1, 18, 18, 'g', 171, 'g'},
		`"\\x41\\n"`:                          {92, 'x', '4', '1', 92, 'n'},
		`"/* // */"`:                          {47, 42, 32, 47, 47, 32, 42, 47},
		`" a"`:                                {32, 97},
		"\"\t\x00\r\"":                        {9, 0, 13},
		`"\x` + strings.Repeat("0", 50) + `"`: {0},
	})
}

func TestStrOfEachByte(t *testing.T) {
	for c := range 256 {
		b := string([]byte{byte(c)})
		if b == "\"" || b == "\\" || b == "\n" {
			wantNoStrs(t, "\""+b+"\"", "L\""+b+"\"")
			continue
		}
		wantStrs(t, map[string][]int64{"\"" + b + "\"": {int64(c)}, "u\"a" + b + b + "\"": {97, int64(c), int64(c)}})
	}
}

func TestStrOfWrongTexts(t *testing.T) {
	wantNoStrs(t, "", "a", "\"", "\"a", "a\"", "\"\"\"", "\"a\"b", "\"a\"\"b\"", "\"a\" ", " \"a\"", "\"\"\n", "\"\n\"", "\"\\\n\"", "\"a\\\"", "'a'", "\"a'", "'\"",
		"U8\"a\"", "l\"a\"", "LL\"a\"", "u8u\"a\"", "u8 \"a\"", "R\"a\"", "+\"a\"", "/**/\"a\"", "\"a\"/**/", "\"a\"u", "u8", "L", "<a>", "\x00\"a\"", "\u201ca\u201d")
}

func TestStrOfLongTexts(t *testing.T) {
	want := make([]int64, 100000)
	for i := range want {
		want[i] = 255
	}
	wantStrs(t, map[string][]int64{"\"" + strings.Repeat("\xff", len(want)) + "\"": want, "u8\"" + strings.Repeat(`\377`, len(want)) + "\"": want})
	wantNoStrs(t, "\""+strings.Repeat("a", 100000)+`\e"`, "\""+strings.Repeat("a", 100000))
}

func TestStrOfManyTexts(t *testing.T) {
	manyQuoted(func(s string) {
		want, e := wantStr(s)
		if l, f := ctok.Str(s); !slices.Equal(l, want) || f != e {
			t.Fatalf("Str(%q): %v, %v, not %v, %v", s, l, f, want, e)
		}
	})
}

// P4.4

func TestClassOfEachKind(t *testing.T) {
	for _, c := range []struct {
		kind int
		text string
		want api.CTok
	}{
		{api.Punct, "<%", api.CTok{Class: api.Operator, Text: "{"}},
		{api.Word, "int", api.CTok{Class: api.Keyword, Text: "int"}},
		{api.Word, "Int", api.CTok{Class: api.Name, Text: "Int"}},
		{api.Number, "1", api.CTok{Class: api.Int, Text: "1"}},
		{api.Number, "0XFFul", api.CTok{Class: api.Int, Text: "0XFFul"}},
		{api.Number, "18446744073709551615u", api.CTok{Class: api.Int, Text: "18446744073709551615u"}},
		{api.Number, "1.", api.CTok{Class: api.Float, Text: "1."}},
		{api.Number, "0x1p-1F", api.CTok{Class: api.Float, Text: "0x1p-1F"}},
		{api.Number, "08e1", api.CTok{Class: api.Float, Text: "08e1"}},
		{api.Chars, "'a'", api.CTok{Class: api.CharLit, Text: "'a'"}},
		{api.Chars, `L'\xffffffff'`, api.CTok{Class: api.CharLit, Text: `L'\xffffffff'`}},
		{api.Chars, `'\0'`, api.CTok{Class: api.CharLit, Text: `'\0'`}},
		{api.String, `""`, api.CTok{Class: api.StrLit, Text: `""`}},
		{api.String, `u8"a\n"`, api.CTok{Class: api.StrLit, Text: `u8"a\n"`}},
		{api.Punct, "+", api.CTok{Class: api.Operator, Text: "+"}},
		{api.Punct, "##", api.CTok{Class: api.Operator, Text: "##"}},
	} {
		if got, e := ctok.Class(c.kind, c.text); e != api.OK || got != c.want {
			t.Errorf("Class(%d, %q): %v, %v, not %v", c.kind, c.text, got, e, c.want)
		}
	}
	for _, k := range keywords() {
		if got, e := ctok.Class(api.Word, k); e != api.OK || got != (api.CTok{Class: api.Keyword, Text: k}) {
			t.Errorf("Class(Word, %q): %v, %v", k, got, e)
		}
	}
	for second, first := range spellings() {
		if got, e := ctok.Class(api.Punct, second); e != api.OK || got != (api.CTok{Class: api.Operator, Text: first}) {
			t.Errorf("Class(Punct, %q): %v, %v", second, got, e)
		}
	}
}

func TestNoClass(t *testing.T) {
	for kind, texts := range map[int][]string{
		api.Number:  {"1x", "", "08", "0x", "1e", "1lul", "9223372036854775808", "0x1.8", "1..2", "a", "'a'", "1 ", ".", "...", "int"},
		api.Chars:   {"", "''", "'abcde'", "L'ab'", `'\400'`, `'\e'`, `'\x'`, "a", "1", "\"a\"", "'a'b", "u8'a'"},
		api.String:  {"", "'a'", `"\e"`, `"\x100"`, `u8"\400"`, `u"\x10000"`, "\"", "\"a\"b", "a", "<a>"},
		api.Other:   {"@", "\\", "", "a", "1", "+", "\x80"},
		api.Header:  {"<a>", "\"a\"", "", "a"},
		api.Comment: {"/**/", "// a", "", "a"},
		api.Newline: {"\n", "", ";"},
		api.Line:    {"", "1", "__LINE__"},
		api.Made:    {"", "\"a\"", "a"},
		0:           {"", "a", "1", "+"},
		-1:          {"a", "1", "+"},
		12:          {"a", "1", "+"},
		1 << 40:     {"a", "int"},
	} {
		for _, text := range texts {
			if c, e := ctok.Class(kind, text); e != api.ErrConst || c != (api.CTok{}) {
				t.Errorf("Class(%d, %q): %v, %v", kind, text, c, e)
			}
		}
	}
}

// Whether a text is one of its kind does not count for words and operators.
func TestClassOfTextsThatAreNotOfTheirKind(t *testing.T) {
	for _, text := range []string{"", "1", "+", "<:", "'a'", "\"", "/**/", "\n", " ", "a b", "\xff", "int ", strings.Repeat("a", 100000)} {
		if got, e := ctok.Class(api.Word, text); e != api.OK || got != (api.CTok{Class: api.Name, Text: text}) {
			t.Errorf("Class(Word, %.20q): %.20v, %v", text, got, e)
		}
		if text == "<:" {
			continue
		}
		if got, e := ctok.Class(api.Punct, text); e != api.OK || got != (api.CTok{Class: api.Operator, Text: text}) {
			t.Errorf("Class(Punct, %.20q): %.20v, %v", text, got, e)
		}
	}
	if got, e := ctok.Class(api.Punct, "int"); e != api.OK || got != (api.CTok{Class: api.Operator, Text: "int"}) {
		t.Error(got, e)
	}
}

func TestClassOfManyTexts(t *testing.T) {
	check := func(s string) {
		for kind := range api.Made + 2 {
			want, e := wantClass(kind, s)
			if got, f := ctok.Class(kind, s); got != want || f != e {
				t.Fatalf("Class(%d, %q): %v, %v, not %v, %v", kind, s, got, f, want, e)
			}
		}
	}
	everyText(strings.Fields(`0 1 9 x a . e p + u L ' " \ <: %`), 3, check)
	for c := range 256 {
		b := string([]byte{byte(c)})
		for _, s := range []string{b, "1" + b, b + "1", "'" + b + "'", "'\\" + b + "'", "\"\\" + b + "\"", b + "'a'", b + "\"a\""} {
			check(s)
		}
	}
}

// P4.5

// tokens are tokens of a text that must be read without an error.
func tokens(t *testing.T, s string) []api.Tok {
	t.Helper()
	l, e := scan.Scan(s)
	if e != api.OK {
		t.Fatalf("Scan(%q): %v", s, e)
	}
	return l
}

func TestTokens(t *testing.T) {
	l, at, e := ctok.Tokens(tokens(t, "/* a */ int x<:2:> = <% 'a', // b\n 1.e5 %>;\nchar *s = u8\"\\0\"/**/;\n"))
	want := []api.CTok{
		{Class: api.Keyword, Text: "int"}, {Class: api.Name, Text: "x"}, {Class: api.Operator, Text: "["}, {Class: api.Int, Text: "2"},
		{Class: api.Operator, Text: "]"}, {Class: api.Operator, Text: "="}, {Class: api.Operator, Text: "{"}, {Class: api.CharLit, Text: "'a'"},
		{Class: api.Operator, Text: ","}, {Class: api.Float, Text: "1.e5"}, {Class: api.Operator, Text: "}"}, {Class: api.Operator, Text: ";"},
		{Class: api.Keyword, Text: "char"}, {Class: api.Operator, Text: "*"}, {Class: api.Name, Text: "s"}, {Class: api.Operator, Text: "="},
		{Class: api.StrLit, Text: `u8"\0"`}, {Class: api.Operator, Text: ";"},
	}
	if e != api.OK || at != 0 || !slices.Equal(l, want) {
		t.Errorf("%v, %d, %v, not %v", l, at, e, want)
	}
}

func TestTokensWithoutClass(t *testing.T) {
	for s, want := range map[string]int{
		"@\n":                     0,
		"@ a b\n":                 0,
		"/**/\n//\n 08 a\n":       0,
		"a @ b\n":                 1,
		"a /**/ // c\n\n @ b\n":   1,
		"a b 'abcde'\n":           2,
		"a b \"\\e\"":             2,
		"#include <a>\n":          2,
		"#include \"a\"\n":        2,
		"a\nb\n/**/ c 1 1lul\n":   4,
		"a @ 1x\n":                1,
		"1x @ a\n":                0,
		"int a = 0x;\n":           3,
		"L'a' L'ab' \xff\n":       1,
		"\"\\u0041\" 'a' \\ \n":   0,
		"+ /* @ */ - // @\n * ` ": 3,
	} {
		if l, at, e := ctok.Tokens(tokens(t, strings.TrimSuffix(s, "\n")+"\n")); e != api.ErrConst || at != want || len(l) != 0 {
			t.Errorf("Tokens of %q: %v, %d, %v, not %d", s, l, at, e, want)
		}
	}
}

func TestTokensOfNothing(t *testing.T) {
	for _, l := range [][]api.Tok{nil, {}, {{Kind: api.Comment, Text: "@"}}, {{Kind: api.Newline}, {Kind: api.Comment, Text: "1x"}, {Kind: api.Newline}}} {
		if c, at, e := ctok.Tokens(l); e != api.OK || at != 0 || len(c) != 0 {
			t.Errorf("Tokens(%v): %v, %d, %v", l, c, at, e)
		}
	}
}

func TestTokensOfAnyList(t *testing.T) {
	some := []api.Tok{
		{Kind: api.Word, Text: "int", At: -5, End: 1 << 40},
		{Kind: api.Number, Text: "1", Space: true},
		{Kind: api.Number, Text: "1x"},
		{Kind: api.Punct, Text: "%:%:"},
		{Kind: api.Comment, Text: "int", Space: true},
		{Kind: api.Newline, Text: "@"},
		{Kind: -3, Text: "a"},
	}
	var lists func(l []api.Tok, n int)
	lists = func(l []api.Tok, n int) {
		var want []api.CTok
		at, e := 0, api.OK
		for _, x := range l {
			if x.Kind == api.Comment || x.Kind == api.Newline {
				continue
			}
			var c api.CTok
			if c, e = wantClass(x.Kind, x.Text); e != api.OK {
				want, at = nil, len(want)
				break
			}
			want = append(want, c)
		}
		if got, i, f := ctok.Tokens(l); !slices.Equal(got, want) || i != at || f != e {
			t.Fatalf("Tokens(%v): %v, %d, %v, not %v, %d, %v", l, got, i, f, want, at, e)
		}
		if n == 0 {
			return
		}
		for _, x := range some {
			lists(append(slices.Clone(l), x), n-1)
		}
	}
	lists(nil, 4)
}

// P4.6

func TestArgumentsAreOnlyRead(t *testing.T) {
	whole := tokens(t, "a/**/b 1 <: 'a' \"b\"\nc 1x d\n")
	before := slices.Clone(whole)
	for _, l := range [][]api.Tok{whole, whole[:4:len(whole)], whole[:0]} {
		got, _, _ := ctok.Tokens(l)
		for i := range got {
			got[i] = api.CTok{}
		}
		_ = append(got, api.CTok{Text: "appended"})
		if !slices.Equal(whole, before) {
			t.Error("Tokens changes its argument:", whole)
		}
	}
}

func TestResultsAreNew(t *testing.T) {
	l := tokens(t, "int a<:1:> = \"b\";\n")
	first, _, _ := ctok.Tokens(l)
	second, _, _ := ctok.Tokens(l)
	want := slices.Clone(second)
	for i := range first {
		first[i] = api.CTok{Text: "written"}
	}
	if third, _, _ := ctok.Tokens(l); !slices.Equal(second, want) || !slices.Equal(third, want) {
		t.Error("two results share memory, or a result is kept:", second, third)
	}

	const s = `"a\0\18"`
	numbers, _ := ctok.Str(s)
	again, _ := ctok.Str(s)
	wantNumbers := slices.Clone(again)
	for i := range numbers {
		numbers[i] = -1
	}
	if third, _ := ctok.Str(s); !slices.Equal(again, wantNumbers) || !slices.Equal(third, wantNumbers) {
		t.Error("two results share memory, or a result is kept:", again, third)
	}
}

func TestTextsAreNew(t *testing.T) {
	for kind, text := range map[int]string{api.Word: "name", api.Number: "12345", api.Chars: "'abc'", api.String: "\"text\"", api.Punct: "<<="} {
		text = strings.Clone(text)
		c, e := ctok.Class(kind, text)
		if e != api.OK || c.Text != text || shares(c.Text, text) {
			t.Errorf("the text %q of a class is that of the argument, or %v", c.Text, e)
		}
		l, _, _ := ctok.Tokens([]api.Tok{{Kind: kind, Text: text}})
		if len(l) != 1 || l[0].Text != text || shares(l[0].Text, text) {
			t.Errorf("the text of %v is that of the argument", l)
		}
		if canon := ctok.Canon(text); canon != text || shares(canon, text) {
			t.Errorf("the text %q is that of the argument", canon)
		}
	}
	keyword := strings.Clone("volatile")
	if c, _ := ctok.Class(api.Word, keyword); c.Text != keyword || shares(c.Text, keyword) {
		t.Errorf("the text %q of a keyword is that of the argument", c.Text)
	}
}

// shares says whether two texts have bytes in the same place.
func shares(a, b string) bool {
	from, to := uintptr(unsafe.Pointer(unsafe.StringData(a))), uintptr(unsafe.Pointer(unsafe.StringData(b)))
	return from < to+uintptr(len(b)) && to < from+uintptr(len(a))
}

// P4.7

func TestWrittenNumbersAreReadAsThemselves(t *testing.T) {
	check := func(n uint64) {
		for base, ahead := range map[int]string{10: "", 8: "0", 16: "0x"} {
			digits := ahead + strconv.FormatUint(n, base)
			want := integer{n, n > math.MaxInt64}
			switch {
			case base == 10 && n > math.MaxInt64:
				wantNoInts(t, digits)
			default:
				wantInts(t, map[string]integer{digits: want, strings.ToUpper(digits): want})
			}
			wantInts(t, map[string]integer{digits + "u": {n, unsigned}, digits + "LLU": {n, unsigned}})
		}
	}
	for n := range uint64(3000) {
		check(n)
		check(math.MaxInt64 - 1500 + n)
		check(math.MaxUint64 - n)
	}
	for bit := range 64 {
		for n := range uint64(5) {
			check(1<<bit + n - 2)
		}
	}
}

func TestNoTextIsAnIntegerAndAFloat(t *testing.T) {
	manyNumbers(func(s string) {
		if _, _, e := ctok.Int(s); e == api.OK && ctok.Float(s) {
			t.Fatalf("%q is both", s)
		}
	})
}

func TestBytesWrittenAsOctalDigits(t *testing.T) {
	written := func(bytes ...byte) (text string, numbers []int64) {
		for _, b := range bytes {
			digits := strconv.FormatInt(int64(b), 8)
			text += `\` + strings.Repeat("0", 3-len(digits)) + digits
			numbers = append(numbers, int64(b))
		}
		return text, numbers
	}
	for a := range 256 {
		for b := range 256 {
			text, want := written(byte(a), byte(b))
			wantStrs(t, map[string][]int64{`"` + text + `"`: want, `L"` + text + `8"`: append(slices.Clone(want), '8'), `u8"7` + text + `7"`: append(append([]int64{'7'}, want...), '7')})
			wantChars(t, map[string]int64{"'" + text + "'": int64(int16(a<<8 + b))})
		}
		text, want := written(byte(a))
		wantChars(t, map[string]int64{"'" + text + "'": int64(int8(a)), "L'" + text + "'": want[0], "u'" + text + "'": want[0], "U'" + text + "'": want[0]})
	}
}
