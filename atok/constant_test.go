package atok_test

import (
	"math"
	"strings"
	"testing"

	"windlass/api"
	"windlass/atok"
)

// P12.1: numbers of the three kinds are told by their value, by Constant and as a token.
func TestConstant(t *testing.T) {
	t.Parallel()
	for s, want := range map[string]int64{
		"0": 0, "00": 0, "000000000000000000000000000000": 0, "01": 1, "07": 7, "007": 7, "010": 8, "077": 63, "01234567": 342391,
		"1": 1, "2": 2, "3": 3, "4": 4, "5": 5, "6": 6, "7": 7, "8": 8, "9": 9, "10": 10, "18": 18, "90": 90, "1234567890": 1234567890,
		"0x0": 0, "0X0": 0, "0x00": 0, "0x1": 1, "0x1F": 31, "0X1f": 31, "0xf": 15, "0XF": 15, "0xaA": 170, "0x0123456789": 0x123456789, "0xabcdef": 0xabcdef, "0XABCDEF": 0xabcdef, "0x00000000000000000000000000000001f": 31, "0xe1": 225, "0x9": 9, "0xb1": 177,
		most: math.MaxInt64, mostOct: math.MaxInt64, mostHex: math.MaxInt64, "0X7FFFFFFFFFFFFFFF": math.MaxInt64,
		"9223372036854775806": math.MaxInt64 - 1, "0777777777777777777776": math.MaxInt64 - 1, "0x7ffffffffffffffe": math.MaxInt64 - 1,
		"0000" + mostOct: math.MaxInt64, "0x0000" + mostHex[2:]: math.MaxInt64,
		strings.Repeat("0", 9000) + mostOct: math.MaxInt64, "0X" + strings.Repeat("0", 9000) + "7FFFffffFFFFffff": math.MaxInt64,
	} {
		if n, ok := atok.Constant(s); n != want || !ok {
			t.Errorf("Constant(%s) = %d, %v, not %d", short(s), n, ok, want)
		}
		holds(t, s, num(want, 0), end(len(s)))
	}
}

// P12.1, wrong inputs: what begins with a digit and is none of the three kinds is 0, false; as a token it is ErrNumber at its place.
func TestNoConstant(t *testing.T) {
	t.Parallel()
	many := strings.Repeat("9", 5000)
	for _, s := range []string{
		"08", "09", "008", "0778", "079", "0000000000000000000009", "018446744073709551615",
		"0x", "0X", "0xg", "0XG", "0x1g", "0xg1", "0x_", "0x_1", "0x1_", "0x1_1", "0xx1", "0x0x1", "00x1", "0xX", "1x1", "0Xx", "0x1x",
		"1a", "1_", "0_", "0_1", "1_0", "01_1", "00_", "1e5", "10a", "9z", "9Z", "0a", "0b1", "0B1", "0b0", "0o7", "0O7", "0f", "077a", "1A", "12345z", "5_000",
		tooMuch, tooMuchOct, tooMuchHex, "0X8000000000000000", "00000" + tooMuchOct, "0x00000" + tooMuchHex[2:],
		"18446744073709551615", "18446744073709551616", "0xffffffffffffffff", "0x10000000000000000", "01777777777777777777777", "02000000000000000000000", "18446744073709551617",
		"0" + most, "0" + tooMuch, "10000000000000000000", "0x8000000000000001", "36893488147419103232",
		many, "1" + strings.Repeat("0", 5000), "01" + strings.Repeat("0", 5000), "0x1" + strings.Repeat("0", 5000), "0x" + strings.Repeat("f", 5000), strings.Repeat("7", 5000), strings.Repeat("0", 5000) + "8", many + "a",
	} {
		if n, ok := atok.Constant(s); n != 0 || ok {
			t.Errorf("Constant(%s) = %d, %v", short(s), n, ok)
		}
		fails(t, s, 0, api.ErrNumber)
	}
}

// P12.1, wrong inputs: an empty text, names, signs, blanks and whatever else does not begin with a digit, or goes on with what is no digit.
func TestConstantOfOtherTexts(t *testing.T) {
	t.Parallel()
	for _, s := range []string{
		"", "a", "_", "_1", "x1", "x", "X", "x0", "ff", "abc", "0x ", "+1", "-1", "+0", "-0", "+0x1", "-0x1", "0x+1", "0x-1", "0+1", "0-1", "1+", "1-", "01-", "-010", "--1",
		" 1", "1 ", " 1 ", "1 2", "\t1", "1\t", "1\n", "\n1", "0 7", "0x 1", "0 x1", " 0x1", "0x1 ", "07 ", " 07", " ", "\n", "1\r", "\r1", "\v1", "1\f", "1\x00", "\x001",
		"1.0", ".1", "1.", "1,000", "0.", "1'0", "#1", "2#1", "16#ff", "$1", "(1)", "1;", "\xb9", "1\xff", "\xff1", "\u0661", "1\u0661", "\uff11", "Inf", "NaN", "0x1p4", "0x.1", "1e", "∞",
	} {
		if n, ok := atok.Constant(s); n != 0 || ok {
			t.Errorf("Constant(%s) = %d, %v", short(s), n, ok)
		}
	}
}

// P12.1: any byte that is put in, or that stands in a digit's place, makes a number of it, or none, just as its kind says.
func TestConstantByteByByte(t *testing.T) {
	t.Parallel()
	for c := range 256 {
		b := string([]byte{byte(c)})
		oct, dec := strings.Contains("01234567", b), strings.Contains("0123456789", b)
		hex := strings.Contains("0123456789abcdefABCDEF", b)
		for s, is := range map[string]bool{
			b: dec, "0" + b: oct, "1" + b: dec, "0x" + b: hex, "0X" + b: hex, "0" + b + "0": oct || b == "x" || b == "X", "0" + b + "g": false,
			"7" + b + "7": dec, "0x1" + b + "1": hex, "00" + b: oct, "00" + b + "0": oct, "x" + b: false, b + "x": false, b + "_": false, b + " ": false, " " + b: false, "0" + b + "8": b == "x" || b == "X",
		} {
			if n, ok := atok.Constant(s); ok != is || !ok && n != 0 {
				t.Errorf("Constant(%s) = %d, %v", short(s), n, ok)
			}
		}
	}
}
