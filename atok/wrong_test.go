package atok_test

import (
	"slices"
	"strconv"
	"strings"
	"testing"

	"windlass/api"
)

// strangers are the bytes at which no token begins, and which are no blanks.
func strangers() []string {
	var all []string
	for c := range 256 {
		s := string([]byte{byte(c)})
		blank := c == 32 || c == 9 || c == 10
		token := '0' <= c && c <= '9' || 'a' <= c && c <= 'z' || 'A' <= c && c <= 'Z' || c == '_' || slices.Contains(ops, s)
		if !blank && !token {
			all = append(all, s)
		}
	}
	return all
}

// P12.2, wrong inputs: which bytes begin no token.
func TestStrangers(t *testing.T) {
	t.Parallel()
	all := strangers()
	for _, s := range strings.Split("@ # $ . \" ' \\ , ; [ ] { } ` \x00 \x01 \x08 \x0b \x0c \r \x0e \x1f \x7f \x80 \xa0 \xff", " ") {
		if !slices.Contains(all, s) {
			t.Errorf("%q begins a token", s)
		}
	}
	if want := 30 + 1 + 128 + 14; len(all) != want { // below 32, 127, above that, and those that are printed
		t.Errorf("%d bytes begin no token, not %d", len(all), want)
	}
}

// P12.2, wrong inputs: each of these bytes, alone and wherever else, is ErrSyntax at its place.
func TestSyntax(t *testing.T) {
	t.Parallel()
	for _, c := range strangers() {
		for _, x := range []struct {
			ahead, behind string
		}{
			{"", ""}, {"", "1"}, {"", "a"}, {"", "+"}, {"", " "}, {"", " 1+2"}, {" ", ""}, {"\n\t ", "\n"},
			{"1+", "+2"}, {"1 + ", " + 2"}, {"a", ""}, {"a", "b"}, {"12", ""}, {"12", "3"}, {"0", ""}, {"07", ""}, {"0x1F", "1"}, {"_", "_"},
			{"<<=", ""}, {"<<", "="}, {"&", "&"}, {"=", "="}, {"(", ")"}, {"!", ""}, {"1+2 ", ""}, {"a=b ", ""}, {"x\n", "\ny"}, {most, "1"},
			{strings.Repeat("a ", 3000), strings.Repeat(" a", 3000)},
		} {
			fails(t, x.ahead+c+x.behind, len(x.ahead), api.ErrSyntax)
		}
		for _, d := range strangers() {
			fails(t, "1 "+c+d, 2, api.ErrSyntax)
		}
	}
	fails(t, "x=3,", 3, api.ErrSyntax)
	fails(t, "a\r\nb", 1, api.ErrSyntax)
	fails(t, "1\u00a0", 1, api.ErrSyntax)
	fails(t, "é", 0, api.ErrSyntax)
	fails(t, "aé", 1, api.ErrSyntax)
	fails(t, "$x", 0, api.ErrSyntax)
	fails(t, "1.5", 1, api.ErrSyntax)
	fails(t, "0.", 1, api.ErrSyntax)
	fails(t, "a[1]", 1, api.ErrSyntax)
}

// P12.2, wrong inputs: what begins with a digit goes on over all letters, digits and _, and is no number: ErrNumber where it begins.
func TestNumber(t *testing.T) {
	t.Parallel()
	for _, bad := range []string{"08", "09", "0x", "0X", "0xg", "1a", "1_", "0_", "9_9", "0b1", "08a", "1x2", "0x1g", "0x1_", tooMuch, tooMuchOct, tooMuchHex, "0" + most, strings.Repeat("9", 3000)} {
		for _, x := range []struct {
			ahead, behind string
		}{
			{"", ""}, {" ", " "}, {"\n", "\n"}, {"1 ", " 2"}, {"1+", "+2"}, {"a=", ""}, {"a ", " a"}, {"<<", "<<"}, {"(", ")"}, {"1-", "-1"}, {"0x1 ", ""}, {most + " ", " " + most}, {"", "?1:2"},
			{strings.Repeat("1 ", 3000), ""}, {"", strings.Repeat(" 1", 3000)},
		} {
			fails(t, x.ahead+bad+x.behind, len(x.ahead), api.ErrNumber)
		}
	}
	holds(t, "a08", name("a08", 0), end(3))
	holds(t, "_09 x0x", name("_09", 0), name("x0x", 4), end(7))
}

// P12.2: of two errors the one further to the left is told, whichever they are.
func TestWhichError(t *testing.T) {
	t.Parallel()
	fails(t, "@ 09", 0, api.ErrSyntax)
	fails(t, "09 @", 0, api.ErrNumber)
	fails(t, "09@", 0, api.ErrNumber)
	fails(t, "@09", 0, api.ErrSyntax)
	fails(t, "1a$", 0, api.ErrNumber)
	fails(t, "1$a", 1, api.ErrSyntax)
	fails(t, "1$0x", 1, api.ErrSyntax)
	fails(t, "0x$", 0, api.ErrNumber)
	fails(t, "0x$1", 0, api.ErrNumber)
	fails(t, "08 0x", 0, api.ErrNumber)
	fails(t, "7 08 0x", 2, api.ErrNumber)
	fails(t, "a+@+#", 2, api.ErrSyntax)
	fails(t, "a+ 1_ @", 3, api.ErrNumber)
	fails(t, "a+ @ 1_", 3, api.ErrSyntax)
	wrong := map[string]api.Errno{"09": api.ErrNumber, "0x": api.ErrNumber, tooMuch: api.ErrNumber, "@": api.ErrSyntax, "\r": api.ErrSyntax, "\xff": api.ErrSyntax}
	for a, err := range wrong {
		for b := range wrong {
			for _, ahead := range []string{"", " ", "1 ", "a+", "( x\n<<="} {
				for _, between := range []string{" ", "+", " 1 ", " name ", "\n"} {
					fails(t, ahead+a+between+b, len(ahead), err)
				}
			}
		}
	}
}

// P12.2: behind an error no token is told, nor are those ahead of it, however many they are.
func TestNoTokensBesideAnError(t *testing.T) {
	t.Parallel()
	for n := range 40 {
		ahead := strings.Repeat("a+1 ", n)
		for _, behind := range []string{"", " ", "b", " b", " 2 3 4", "\n(", ")"} {
			fails(t, ahead+"@"+behind, len(ahead), api.ErrSyntax)
			fails(t, ahead+"09 "+behind, len(ahead), api.ErrNumber)
		}
	}
	for n := range 100 {
		s := strconv.Itoa(n) + "+"
		fails(t, s+"#"+s, len(s), api.ErrSyntax)
	}
}
