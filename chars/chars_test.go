package chars_test

import (
	"math"
	"math/big"
	"strings"
	"testing"

	"windlass/chars"
)

const (
	digits  = "0123456789"
	uppers  = "ABCDEFGHIJKLMNOPQRSTUVWXYZ"
	lowers  = "abcdefghijklmnopqrstuvwxyz"
	letters = uppers + lowers
)

// allBytes calls f with each of the 256 bytes.
func allBytes(f func(c byte)) {
	for c := 0; c < 256; c++ {
		f(byte(c))
	}
}

// has tells whether a text has a byte (not a rune) in it.
func has(s string, c byte) bool { return strings.IndexByte(s, c) >= 0 }

// P1.1: Digit, Begins and Blank, of all bytes.
func TestBytes(t *testing.T) {
	allBytes(func(c byte) {
		if got, want := chars.Digit(c), has(digits, c); got != want {
			t.Errorf("Digit(%d) = %v", c, got)
		}
		if got, want := chars.Begins(c), has(letters+"_", c); got != want {
			t.Errorf("Begins(%d) = %v", c, got)
		}
		if got, want := chars.Blank(c), c == 32 || c == 9; got != want {
			t.Errorf("Blank(%d) = %v", c, got)
		}
	})
}

// P1.1: Name, by each byte at each place of a short one.
func TestNameBytes(t *testing.T) {
	allBytes(func(c byte) {
		begins, goesOn := has(letters+"_", c), has(letters+digits+"_", c)
		s := string([]byte{c})
		for _, x := range []struct {
			name string
			want bool
		}{
			{s, begins}, {s + "b", begins},
			{"a" + s, goesOn}, {"a" + s + "b", goesOn}, {"ab" + s, goesOn}, {"_" + s, goesOn},
		} {
			if got := chars.Name(x.name); got != x.want {
				t.Errorf("Name(%q) = %v", x.name, got)
			}
		}
	})
}

// P1.1: Name, of whole texts.
func TestName(t *testing.T) {
	for _, s := range []string{"_a1", "a", "_", "__", "_0", "Z9", "PATH", "x_y_1", letters + digits, strings.Repeat("n", 70000)} {
		if !chars.Name(s) {
			t.Errorf("Name(%.40q) = false", s)
		}
	}
	for _, s := range []string{"", "1a", "0", "9_", "-", "a-b", "a b", " a", "a ", "a=", "a\n", "a\x00", "\x00", "é", "aé", "a\xff", "@", strings.Repeat("n", 70000) + "."} {
		if chars.Name(s) {
			t.Errorf("Name(%.40q) = true", s)
		}
	}
}

// P1.2: Number, of texts that are whole numbers.
func TestNumber(t *testing.T) {
	for s, want := range map[string]int64{
		"0": 0, "-0": 0, "+0": 0, "00": 0, "-000": 0, "7": 7, "+7": 7, "-7": -7,
		"-07": -7, "+007": 7, "010": 10, "0099": 99, "123456789": 123456789,
		"9223372036854775807":                                   math.MaxInt64,
		"+9223372036854775807":                                  math.MaxInt64,
		"9223372036854775806":                                   math.MaxInt64 - 1,
		"-9223372036854775808":                                  math.MinInt64,
		"-9223372036854775807":                                  math.MinInt64 + 1,
		strings.Repeat("0", 1000) + "9223372036854775807":       math.MaxInt64,
		"-" + strings.Repeat("0", 1000) + "9223372036854775808": math.MinInt64,
		strings.Repeat("0", 70000):                              0,
	} {
		if got, ok := chars.Number(s); got != want || !ok {
			t.Errorf("Number(%.40q) = %d, %v", s, got, ok)
		}
	}
}

// P1.2: Number, of texts that are none: 0, false.
func TestNumberWrong(t *testing.T) {
	for _, s := range []string{
		"", "+", "-", "--1", "++1", "+-1", "-+1", "1-", "1+", "- 1", "+ 1",
		" 1", "1 ", "\t1", "1\n", "1\x00", "\x001", "1 2", "1a", "a1", "a", "0x10", "0b1", "0o7", "1_000", "_1",
		"1.0", "1e3", ".", ",", "1,000", "/", ":", "1/", "1:", "٣", "１", "\xb1", "−1",
		"inf", "NaN", "true",
		"9223372036854775808", "+9223372036854775808", "-9223372036854775809",
		"09223372036854775808", "-009223372036854775809",
		"9223372036854775817", "10000000000000000000", "-10000000000000000000",
		"18446744073709551615", "18446744073709551616", "18446744073709551617", "-18446744073709551616",
		"92233720368547758070", strings.Repeat("9", 400), "-" + strings.Repeat("1", 400), strings.Repeat("0", 400) + "x",
	} {
		if got, ok := chars.Number(s); got != 0 || ok {
			t.Errorf("Number(%.40q) = %d, %v", s, got, ok)
		}
	}
}

// P1.2: Number, of each byte alone, ahead of a digit and behind one.
func TestNumberBytes(t *testing.T) {
	allBytes(func(c byte) {
		digit, sign := has(digits, c), c == '+' || c == '-'
		s := string([]byte{c})
		for _, x := range []struct {
			text string
			want bool
		}{{s, digit}, {s + "5", digit || sign}, {"5" + s, digit}, {"-" + s, digit}, {"5" + s + "5", digit}} {
			got, ok := chars.Number(x.text)
			if ok != x.want || !ok && got != 0 {
				t.Errorf("Number(%q) = %d, %v", x.text, got, ok)
			}
		}
	})
}

// edges are numbers about 0, about each power of 2 and of 10, and at both ends.
func edges() []int64 {
	l := []int64{math.MinInt64, math.MinInt64 + 1, math.MaxInt64, math.MaxInt64 - 1}
	about := func(n int64) {
		for d := int64(-2); d <= 2; d++ {
			l = append(l, n+d, -(n + d))
		}
	}
	about(0)
	for k := 0; k < 62; k++ {
		about(1 << k)
	}
	for n := int64(1); n <= math.MaxInt64/10; n *= 10 {
		about(n * 10)
	}
	return l
}

// P1.2: Text has a - ahead of a negative number alone, and no noughts ahead.
func TestText(t *testing.T) {
	for n, want := range map[int64]string{
		0: "0", 7: "7", -7: "-7", 10: "10", -10: "-10", 100: "100", 42: "42",
		math.MaxInt64: "9223372036854775807",
		math.MinInt64: "-9223372036854775808",
	} {
		if got := chars.Text(n); got != want {
			t.Errorf("Text(%d) = %q", n, got)
		}
	}
	for _, n := range edges() {
		if got := chars.Text(n); got != big.NewInt(n).String() {
			t.Errorf("Text(%d) = %q", n, got)
		}
	}
}

// P1.4: Number of Text is the number.
func TestThereAndBack(t *testing.T) {
	for _, n := range edges() {
		if got, ok := chars.Number(chars.Text(n)); got != n || !ok {
			t.Errorf("Number(Text(%d)) = %d, %v", n, got, ok)
		}
	}
	x := uint64(1)
	for i := 0; i < 10000; i++ {
		x = x*6364136223846793005 + 1442695040888963407
		n := int64(x) >> (x >> 58)
		if got, ok := chars.Number(chars.Text(n)); got != n || !ok {
			t.Fatalf("Number(Text(%d)) = %d, %v", n, got, ok)
		}
	}
}

// run is the bytes from one to another one.
func run(first, last byte) string {
	var b []byte
	for c := int(first); c <= int(last); c++ {
		b = append(b, byte(c))
	}
	return string(b)
}

// members is each class with all bytes that it has.
func members() map[string]string {
	const puncts = "!\"#$%&'()*+,-./:;<=>?@[\\]^_`{|}~"
	return map[string]string{
		"alpha":  letters,
		"digit":  digits,
		"alnum":  letters + digits,
		"upper":  uppers,
		"lower":  lowers,
		"space":  "\t\n\v\f\r ",
		"blank":  "\t ",
		"punct":  puncts,
		"print":  " " + puncts + letters + digits,
		"graph":  puncts + letters + digits,
		"cntrl":  run(0, 31) + "\x7f",
		"xdigit": digits + "abcdefABCDEF",
	}
}

// P1.3: Class, of all bytes, in each class.
func TestClass(t *testing.T) {
	for name, all := range members() {
		allBytes(func(c byte) {
			if got, want := chars.Class(name, c), has(all, c); got != want {
				t.Errorf("Class(%q, %d) = %v", name, c, got)
			}
		})
	}
}

// P1.3: Class, at both ends of each run of bytes, and one past each.
func TestClassEnds(t *testing.T) {
	for _, x := range []struct {
		name        string
		first, last byte
	}{
		{"alpha", 'A', 'Z'}, {"alpha", 'a', 'z'}, {"digit", '0', '9'},
		{"alnum", '0', '9'}, {"alnum", 'A', 'Z'}, {"alnum", 'a', 'z'},
		{"upper", 'A', 'Z'}, {"lower", 'a', 'z'},
		{"space", 9, 13}, {"space", 32, 32}, {"blank", 9, 9}, {"blank", 32, 32},
		{"punct", 33, 47}, {"punct", 58, 64}, {"punct", 91, 96}, {"punct", 123, 126},
		{"print", 32, 126}, {"graph", 33, 126}, {"cntrl", 0, 31}, {"cntrl", 127, 127},
		{"xdigit", '0', '9'}, {"xdigit", 'A', 'F'}, {"xdigit", 'a', 'f'},
	} {
		if !chars.Class(x.name, x.first) || !chars.Class(x.name, x.last) {
			t.Errorf("Class(%q, ..) lacks an end of %d to %d", x.name, x.first, x.last)
		}
		if x.first > 0 && chars.Class(x.name, x.first-1) || chars.Class(x.name, x.last+1) {
			t.Errorf("Class(%q, ..) goes past %d to %d", x.name, x.first, x.last)
		}
	}
}

// P1.3: Class, of an unknown class: false, of every byte.
func TestClassUnknown(t *testing.T) {
	for _, name := range []string{
		"", "Alpha", "ALPHA", "alph", "alphaa", " alpha", "alpha ", "alpha\x00", "[:alpha:]", ":alpha:",
		"word", "ascii", "letter", "a", "0", "\xff", "alpha|digit", strings.Repeat("alpha", 1000),
	} {
		allBytes(func(c byte) {
			if chars.Class(name, c) {
				t.Errorf("Class(%.40q, %d) = true", name, c)
			}
		})
	}
}

// P1.5: how the classes go together, of all bytes.
func TestClassesTogether(t *testing.T) {
	allBytes(func(c byte) {
		is := func(name string) bool { return chars.Class(name, c) }
		if is("alnum") != (is("alpha") || is("digit")) {
			t.Errorf("%d: alnum is not alpha or digit", c)
		}
		if is("graph") != (is("alnum") || is("punct")) {
			t.Errorf("%d: graph is not alnum or punct", c)
		}
		if is("print") != (is("graph") || c == 32) {
			t.Errorf("%d: print is not graph or 32", c)
		}
		if is("cntrl") && is("print") {
			t.Errorf("%d: both cntrl and print", c)
		}
		if is("digit") != chars.Digit(c) || is("blank") != chars.Blank(c) {
			t.Errorf("%d: digit or blank is not Digit or Blank", c)
		}
	})
}
