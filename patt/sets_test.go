package patt_test

import (
	"strings"
	"testing"
)

// P10.1: what a set has, turned or not; a ! that turns nothing, a ] that closes nothing.
func TestSets(t *testing.T) {
	for _, x := range []struct{ written, members string }{
		{"[a]", "a"},
		{"[ab]", "ab"},
		{"[aab]", "ab"},
		{"[a*]", "a*"},
		{"[?*]", "?*"},
		{`[\?\*]`, "?*"},
		{"[[]", "["},
		{"[[a]", "[a"},
		{"[a[]", "a["},
		{`[\[]`, "["},
		{"[/.]", "/."},
		{"[\x00]", "\x00"},
		{"[\x00\x80\xff]", "\x00\x80\xff"},
		{"[\n]", "\n"},
		{"[^a]", "^a"},
		{`[\a]`, "a"},
		{`[\a\b]`, "ab"},
		// turned
		{"[!a]", without("a")},
		{"[!ab]", without("ab")},
		{"[!*]", without("*")},
		{"[![]", without("[")},
		{"[!\x00]", without("\x00")},
		{"[!\x80\xff]", without("\x80\xff")},
		{"[!!]", without("!")},
		{"[!!a]", without("!a")},
		{"[!a!]", without("a!")},
		{`[!\!]`, without("!")},
		// a ! that turns nothing
		{"[a!]", "a!"},
		{"[a!b]", "a!b"},
		{`[\!]`, "!"},
		{`[\!a]`, "!a"},
		{`[\!!]`, "!"},
		// a ] that is the first member's first byte, or is quoted
		{"[]]", "]"},
		{"[]a]", "]a"},
		{"[]aa]", "]a"},
		{"[!]]", without("]")},
		{"[!]a]", without("]a")},
		{`[\]]`, "]"},
		{`[\]a]`, "]a"},
		{`[a\]]`, "a]"},
		{`[a\]b]`, "a]b"},
		{`[!\]]`, without("]")},
		{`[!a\]]`, without("a]")},
		{`[]\]]`, "]"},
		{`[\]\]]`, "]"},
		{"[][]", "]["},
		{"[!][]", without("][")},
	} {
		holdSet(t, of(x.written), x.members)
	}
}

// P10.1: a - between two bytes, and one that stands for itself.
func TestRanges(t *testing.T) {
	for _, x := range []struct{ written, members string }{
		{"[a-c]", "abc"},
		{"[a-cx-z]", "abcxyz"},
		{"[a-ca-d]", "abcd"},
		{"[_a-c]", "_abc"},
		{"[a-c_]", "abc_"},
		{"[0-9a-fA-F]", "0123456789abcdefABCDEF"},
		{"[!a-c]", without("abc")},
		{"[a-a]", "a"},
		{"[b-a]", ""},
		{"[!b-a]", run(0, 255)},
		{"[b-ac]", "c"},
		{"[z-]", "z-"},
		{"[-]", "-"},
		{"[--]", "-"},
		{"[---]", "-"},
		{"[----]", "-"},
		{"[-----]", "-"},
		{"[!-]", without("-")},
		{"[!--]", without("-")},
		{"[-a]", "-a"},
		{"[a-]", "a-"},
		{"[ab-]", "ab-"},
		{"[!-a]", without("-a")},
		{"[!a-]", without("a-")},
		{"[--0]", "-./0"},
		{"[+--]", "+,-"},
		{"[a--]", ""},
		{"[%--]", "%&'()*+,-"},
		{"[a-c-e]", "abc-e"},
		{"[a-c-]", "abc-"},
		{"[a-c-c]", "abc-"},
		{"[a-c--]", "abc-"},
		{"[a-c--/]", "abc-./"},
		// quoted
		{`[a\-c]`, "a-c"},
		{`[\-a]`, "-a"},
		{`[\--/]`, "-./"},
		{`[+-\-]`, "+,-"},
		{`[\a-c]`, "abc"},
		{`[a-\c]`, "abc"},
		{`[\a-\c]`, "abc"},
		{`[\a\-\c]`, "a-c"},
		{`[a-\-]`, ""},
		{`[-\-a]`, "-a"},
		{`[-\-]`, "-"},
		{`[\--a]`, run('-', 'a')},
		{`[!\--a]`, without(run('-', 'a'))},
		// ]
		{"[]-a]", "]^_`a"},
		{"[!]-a]", without("]^_`a")},
		{`[\]-a]`, "]^_`a"},
		{`[A-\]]`, run('A', ']')},
		{`[!A-\]]`, without(run('A', ']'))},
		{`[a-\]]`, ""},
		{`[\]-\]]`, "]"},
		{"[]-]", "]-"},
		{"[!]-]", without("]-")},
		{`[]-\]]`, "]"},
		// ! and [
		{"[!-#]", without("-#")},
		{`[\!-#]`, "!\"#"},
		{"[!!-#]", without("!\"#")},
		{"[ -!]", " !"},
		{"[[-]", "[-"},
		{"[[-a]", "[\\]^_`a"},
		{"[Y-[]", "YZ["},
		{"[*-?]", run('*', '?')},
		// past 127
		{"[\x00-\xff]", run(0, 255)},
		{"[!\x00-\xff]", ""},
		{"[\x7f-\x81]", "\x7f\x80\x81"},
		{"[a-\x80]", run('a', 128)},
		{"[\xfe-\xff]", "\xfe\xff"},
		{"[\xff-\xff]", "\xff"},
		{"[\x00-\x00]", "\x00"},
		{"[\xff-\x00]", ""},
		{"[\x80-a]", ""},
		{"[!\x80-\xff]", run(0, 127)},
		{"[\x00-]", "\x00-"},
	} {
		holdSet(t, of(x.written), x.members)
	}
	for first := range 256 {
		for last := range 256 {
			if first%5 != 0 && last%7 != 0 {
				continue
			}
			p := pat{string([]byte{'[', byte(first), '-', byte(last), ']'}), "01010"}
			for _, c := range []int{0, first - 1, first, first + 1, (first + last) / 2, last - 1, last, last + 1, 255} {
				if 0 <= c && c <= 255 {
					holdMatch(t, p, string([]byte{byte(c)}), first <= c && c <= last)
				}
			}
		}
	}
}

// P10.1: the first plain ] closes a set; what is behind it is no more of it.
func TestCloses(t *testing.T) {
	for _, x := range []struct {
		written string
		yes, no []string
	}{
		{"[a]]", []string{"a]"}, []string{"a", "]", "]]"}},
		{"[a-]]", []string{"a]", "-]"}, []string{"a", "]", "b]", "]]"}},
		{"[a-]z]", []string{"az]", "-z]"}, []string{"a", "z", "]"}},
		{"[]]]", []string{"]]"}, []string{"]", "]]]"}},
		{"[!]]]", []string{"a]", "[]"}, []string{"]]", "a", "]"}},
		{"[]-]a]", []string{"]a]", "-a]"}, []string{"]", "a", "^", "^a]"}},
		{`[\]]]`, []string{"]]"}, []string{"]", `\]`}},
		{"[a][b]", []string{"ab"}, []string{"a", "b", "ba", "[a][b]"}},
		{"[a][b", []string{"a[b"}, []string{"ab", "[a][b"}},
		{"x[a]y", []string{"xay"}, []string{"xy", "x[a]y", "xa", "ay"}},
		{"[a]*[b]", []string{"ab", "aab", "axb"}, []string{"a", "b", "ba"}},
		{"[*]*", []string{"*", "*a"}, []string{"", "a"}},
		{"[?]?", []string{"?a", "??"}, []string{"?", "ab"}},
		{"[a]-[b]", []string{"a-b"}, []string{"ab", "a", "aab"}},
		{"![a]", []string{"!a"}, []string{"a", "b", "!b"}},
	} {
		holdMatches(t, x.written, x.yes, x.no)
	}
}

// P10.1: a [ that begins no set wants itself, and what is behind it is as it would be without it.
func TestNotClosed(t *testing.T) {
	for _, x := range []struct {
		written string
		yes, no []string
	}{
		{"[", []string{"["}, []string{"", "a", "[["}},
		{"[[", []string{"[["}, []string{"", "[", "[[["}},
		{"a[", []string{"a["}, []string{"a", "["}},
		{"[a", []string{"[a"}, []string{"a", "[", ""}},
		{"[!", []string{"[!"}, []string{"!", "a", "["}},
		{"[!a", []string{"[!a"}, []string{"b", "!a"}},
		{"[]", []string{"[]"}, []string{"]", "[", ""}},
		{"[]a", []string{"[]a"}, []string{"]", "a"}},
		{"[!]", []string{"[!]"}, []string{"!", "a", "]", "[]"}},
		{"[!]a", []string{"[!]a"}, []string{"b", "a"}},
		{"[a-", []string{"[a-"}, []string{"a", "-"}},
		{"[a-z", []string{"[a-z"}, []string{"b", "a", "[b"}},
		{`[\]`, []string{"[]"}, []string{"]", "["}},
		{`[a\]`, []string{"[a]"}, []string{"a", "]"}},
		{`[!\]`, []string{"[!]"}, []string{"a"}},
		{`[a-\]`, []string{"[a-]"}, []string{"a", "-"}},
		{"[?", []string{"[?", "[a", "[["}, []string{"[", "?", "a", "[ab"}},
		{"[*", []string{"[", "[*", "[a", "[ab"}, []string{"", "*", "a"}},
		{"[?*", []string{"[a", "[ab"}, []string{"[", "?"}},
		{"[*a", []string{"[a", "[xa"}, []string{"[", "a", "*a"}},
		{"[]*", []string{"[]", "[]a"}, []string{"[", "]", "*"}},
		{"[]?", []string{"[]a", "[]?"}, []string{"[]", "]"}},
		{"[!*", []string{"[!", "[!a"}, []string{"[", "a"}},
		{`[\*`, []string{"[*"}, []string{"[", "[a"}},
		{"?[", []string{"a[", "[["}, []string{"[", "ab"}},
		{"*[", []string{"[", "a[", "[["}, []string{"", "a", "[a"}},
		{"[[!", []string{"[[!"}, []string{"[!"}},
		// a set is closed behind it: the ] of a class closes nothing but that, till it is no class any more
		{"[[:digit:]", []string{"[:", "[d", "[t", "[g"}, []string{"5", "[5", "[", "[[", "[]", "[[:digit:]", ":"}},
		{"[![:digit:]", []string{"[!:", "[!d"}, []string{"a", "[!5", "5"}},
		{"[a[:digit:]", []string{"[a:", "[ad"}, []string{"a", "5", "[a5"}},
		{"[[[:digit:]", []string{"[[:", "[[d"}, []string{"5", "[5", "["}},
		{"[[:digit:][:alpha:]", []string{"[::", "[da", "[gp"}, []string{"5", "a", "[5a"}},
		{"[[:nosuch:]", []string{"[:", "[n", "[u"}, []string{"[", "[[:nosuch:]"}},
	} {
		holdMatches(t, x.written, x.yes, x.no)
	}
}

// classes is each class, with all bytes that it has.
func classes() map[string]string {
	const puncts = "!\"#$%&'()*+,-./:;<=>?@[\\]^_`{|}~"
	lowers, uppers, digits := run('a', 'z'), run('A', 'Z'), run('0', '9')
	return map[string]string{
		"alpha":  lowers + uppers,
		"digit":  digits,
		"alnum":  lowers + uppers + digits,
		"upper":  uppers,
		"lower":  lowers,
		"space":  "\t\n\v\f\r ",
		"blank":  "\t ",
		"punct":  puncts,
		"print":  run(32, 126),
		"graph":  run(33, 126),
		"cntrl":  run(0, 31) + "\x7f",
		"xdigit": digits + "abcdefABCDEF",
	}
}

// P10.1: [: and :] with each name of a class, first, last, alone, in between, turned.
func TestClasses(t *testing.T) {
	t.Parallel()
	for name, members := range classes() {
		class := "[:" + name + ":]"
		holdSet(t, plain("["+class+"]"), members)
		holdSet(t, plain("[!"+class+"]"), without(members))
		holdSet(t, plain("[\x80"+class+"]"), "\x80"+members)
		holdSet(t, plain("["+class+"\x80]"), members+"\x80")
		holdSet(t, plain("[\x80"+class+"\xff]"), "\x80\xff"+members)
		holdSet(t, plain("["+class+class+"]"), members)
		holdSet(t, plain("["+class+"\xf0-\xf3]"), members+"\xf0\xf1\xf2\xf3")
		holdSet(t, plain("[\xf0-\xf3"+class+"]"), members+"\xf0\xf1\xf2\xf3")
		holdSet(t, plain("[]"+class+"]"), "]"+members)
		holdSet(t, plain("["+class+"!]"), "!"+members)
		for other, more := range classes() {
			holdSet(t, plain("["+class+"[:"+other+":]]"), members+more)
			holdSet(t, plain("[!"+class+"[:"+other+":]]"), without(members+more))
		}
		holdMatch(t, plain("*["+class+"]*"), "\x80"+members[:1]+"\x80", true)
		holdMatch(t, plain("*["+class+"]*"), "\x80\x81", false)
	}
}

// P10.1: a name of small letters that is no class's, an empty one too, has no bytes.
func TestNoClass(t *testing.T) {
	for _, name := range []string{"", "a", "z", "nosuch", "alph", "alphaa", "word", "ascii", "letter", "digits", "spacee", strings.Repeat("alpha", 20)} {
		class := "[:" + name + ":]"
		holdSet(t, plain("["+class+"]"), "")
		holdSet(t, plain("[!"+class+"]"), run(0, 255))
		holdSet(t, plain("[x"+class+"y]"), "xy")
		holdSet(t, plain("[!x"+class+"]"), without("x"))
		holdSet(t, plain("["+class+"[:digit:]]"), run('0', '9'))
	}
}

// P10.1: a [: that begins no class stands for two bytes, and so do all bytes behind it.
func TestLikeClasses(t *testing.T) {
	for _, x := range []struct {
		written string
		yes, no []string
	}{
		// a byte that is no small letter
		{"[[:Digit:]]", []string{"[]", ":]", "D]", "t]"}, []string{"5", "5]", "]", "D", "[:Digit:]"}},
		{"[[:DIGIT:]]", []string{"[]", "T]"}, []string{"5", "]"}},
		{"[[:digi t:]]", []string{"[]", " ]"}, []string{"5", "]"}},
		{"[[:dig1t:]]", []string{"1]", "d]"}, []string{"5", "1"}},
		{"[[:dig-t:]]", []string{"g]", "h]", "t]", ":]"}, []string{"5", "g", "u]", "-]"}},
		{"[[:dig_t:]]", []string{"_]"}, []string{"5", "_"}},
		{"[[: digit:]]", []string{" ]", "d]"}, []string{"5"}},
		{"[[:digit :]]", []string{" ]", "d]"}, []string{"5"}},
		{"[[:digit\x00:]]", []string{"\x00]", "d]"}, []string{"5"}},
		{"[[:digit\xff:]]", []string{"\xff]", "d]"}, []string{"5"}},
		{"[[:`:]]", []string{"`]"}, []string{"`"}},
		{"[[:{:]]", []string{"{]"}, []string{"{"}},
		{"[[::digit:]]", []string{":]", "d]"}, []string{"5", ":"}},
		{"[[:digit::]]", []string{":]", "d]"}, []string{"5", ":"}},
		{"[[:di:git:]]", []string{":]", "d]"}, []string{"5"}},
		{"[[:[:digit:]]", []string{"[", ":", "0", "9"}, []string{"d", "]", "5]", "a"}},
		{"[[[:digit:]]", []string{"[", "5"}, []string{"d", ":", "]"}},
		{"[[:!digit:]]", []string{"!]"}, []string{"5", "a"}},
		{"[[:^digit:]]", []string{"^]"}, []string{"5", "a"}},
		// not closed
		{"[[:digit]", []string{"[", ":", "d", "t"}, []string{"5", "]", "[[:digit]"}},
		{"[[:digit]]", []string{"[]", ":]", "d]"}, []string{"5", "d"}},
		{"[[:digit:", []string{"[[:digit:"}, []string{"5", "d"}},
		{"[[:digit:x]", []string{"[", ":", "x", "d"}, []string{"5", "]"}},
		{"[[:digit", []string{"[[:digit"}, []string{"5"}},
		{"[[:]", []string{"[", ":"}, []string{"]", "[[:]"}},
		{"[[:]]", []string{"[]", ":]"}, []string{"[", ":", "]"}},
		{"[[:", []string{"[[:"}, []string{"[", ":"}},
		{"[[::", []string{"[[::"}, []string{":"}},
		{"[[:a:", []string{"[[:a:"}, []string{"a"}},
		{"[:digit:]", []string{":", "d", "i", "g", "t"}, []string{"5", "[", "]", "a"}},
		{"[[:digit:]", []string{"[d"}, []string{"5", "d"}},
		{"[[digit:]]", []string{"d]", ":]", "[]"}, []string{"5", "d"}},
		{"[digit:]]", []string{"d]", ":]"}, []string{"5", "d"}},
		// a byte of it is quoted
		{`[\[:digit:]]`, []string{"[]", ":]", "d]"}, []string{"5", "d", "]"}},
		{`[[\:digit:]]`, []string{"[]", ":]", "d]"}, []string{"5", "d"}},
		{`[[:\digit:]]`, []string{"[]", ":]", "d]"}, []string{"5", "d"}},
		{`[[:dig\it:]]`, []string{"[]", ":]", "d]"}, []string{"5", "d"}},
		{`[[:digi\t:]]`, []string{"[]", ":]", "d]"}, []string{"5", "d"}},
		{`[[:digit\:]]`, []string{"[]", ":]", "d]"}, []string{"5", "d"}},
		{`[[:digit:\]]`, []string{"[", ":", "d", "t", "]"}, []string{"5", "d]", "a"}},
		{`[[:digit:]\]`, []string{"[:]", "[d]"}, []string{"5", "d", "]"}},
		{`\[[:digit:]]`, []string{"[d]", "[:]"}, []string{"5", "[5", "d"}},
		{`[[\::]]`, []string{"[]", ":]"}, []string{":", "]"}},
		{`[[:\:]]`, []string{"[]", ":]"}, []string{":", "]"}},
		// an end of a -: at the first place the class is one, and the - a byte; at the second the [ is the end
		{"[[:digit:]-z]", []string{"5", "-", "z"}, []string{"a", ":", "]", "y"}},
		{"[[:digit:]-]", []string{"5", "-"}, []string{"]", ":", "5-]"}},
		{"[[:digit:]--/]", []string{"5", "-", ".", "/"}, []string{",", ":"}},
		{"[a-[:digit:]]", []string{":]", "d]", "i]", "t]"}, []string{"5", "a", "a]", "[]", "-]", "5]"}},
		{"[A-[:digit:]]", []string{"A]", "B]", "Z]", "[]", ":]", "d]"}, []string{"5", "5]", "A", `\]`, "-]"}},
		{"[--[:digit:]]", []string{"-]", "5]", "A]", "[]", "d]"}, []string{"5", `\]`, "a]", ",]"}},
		{"[[:digit:]-[:alpha:]]", []string{"5", "-", "a"}, []string{":", "[", "]", ".", "5]"}},
		{"[[:digit:]a-c[:upper:]]", []string{"5", "b", "Q"}, []string{"-", "d", ":", "]"}},
		{"[a-c[:digit:]]", []string{"b", "5"}, []string{"-", "d", ":"}},
		{"[+-[:digit:]-]", []string{"+-]", "5-]", "A-]", "[-]", "d-]"}, []string{"5", "-", "a-]", "]-]"}},
		// [. and [= are bytes as others
		{"[[.a.]]", []string{"[]", ".]", "a]"}, []string{"a", "."}},
		{"[[=a=]]", []string{"[]", "=]", "a]"}, []string{"a", "="}},
		{"[[.-.]]", []string{"[]", ".]"}, []string{"-", "."}},
		{"[[.a.]", []string{"[", ".", "a"}, []string{"]", "[[.a.]"}},
		{"[[=a=]", []string{"[", "=", "a"}, []string{"]"}},
		{"[[.digit.]]", []string{"d]"}, []string{"5"}},
		{"[[:a.]]", []string{":]", ".]", "a]"}, []string{"a", ":"}},
		{"[[.a:]]", []string{":]", ".]", "a]"}, []string{"a", ":"}},
	} {
		holdMatches(t, x.written, x.yes, x.no)
	}
}
