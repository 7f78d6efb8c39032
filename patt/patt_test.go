package patt_test

import (
	"strings"
	"testing"

	"windlass/patt"
)

// The chapter's examples.
func TestExamples(t *testing.T) {
	for _, x := range []struct {
		p, quoted, s string
		want         bool
	}{
		{"a*[!0-9]", "", "ab1c", true},
		{"a*[!0-9]", "", "ab1", false},
		{"[[:digit:]]", "", "5", true},
		{"[a", "", "[a", true},
		{"*", "1", "x", false},
	} {
		holdMatch(t, pat{x.p, x.quoted}, x.s, x.want)
	}
}

// P10.1: an empty pattern wants just the empty text.
func TestEmpty(t *testing.T) {
	for _, quoted := range []string{"", "0", "1", "111", "\x00"} {
		holdMatch(t, pat{"", quoted}, "", true)
		for c := range 256 {
			holdMatch(t, pat{"", quoted}, string([]byte{byte(c)}), false)
		}
		holdMatch(t, pat{"", quoted}, "11", false)
	}
	for _, written := range []string{"a", "?", "[a]", "[!a]", "[", "]", `\*`, `\?`, `\[`, "??", "*?", "?*", "*a", "a*", "[a]*", "*[!a]*", "\x00"} {
		holdMatches(t, written, nil, []string{""})
	}
	for _, written := range []string{"*", "**", "***"} {
		holdMatches(t, written, []string{""}, nil)
	}
}

// P10.1: a byte that is none of ? * [ wants itself, and so does each byte that is quoted, and a [ alone.
func TestBytes(t *testing.T) {
	for c := range 256 {
		text := string([]byte{byte(c)})
		holdSet(t, allQuoted(text), text)
		if c != '?' && c != '*' {
			holdSet(t, plain(text), text)
		}
	}
}

// P10.1: a plain ? wants any one byte.
func TestOne(t *testing.T) {
	for c := range 256 {
		one := string([]byte{byte(c)})
		holdMatch(t, plain("?"), one, true)
		holdMatch(t, plain("a?b"), "a"+one+"b", true)
		holdMatch(t, plain("?a"), one, false)
		holdMatch(t, plain("??"), one, false)
		holdMatch(t, plain("??"), one+"\x00", true)
		holdMatch(t, plain("?"), one+"\x00", false)
	}
	for n := range 200 {
		for _, m := range []int{n - 1, n, n + 1} {
			if m >= 0 {
				holdMatch(t, plain(strings.Repeat("?", n)), strings.Repeat("\xc3", m), n == m)
			}
		}
	}
}

// P10.1: a plain * wants any bytes, none too, wherever it stands, and as many as there are of it.
func TestMany(t *testing.T) {
	for _, x := range []struct {
		written string
		yes, no []string
	}{
		{"*", []string{"", "a", "*", "ab", "\x00\xff\n/.", "[a]"}, nil},
		{"a*", []string{"a", "ab", "aa", "a\x00", "a*"}, []string{"", "b", "ba", "*a"}},
		{"*a", []string{"a", "ba", "aa", "\xffa", "aba"}, []string{"", "b", "ab", "a*"}},
		{"*a*", []string{"a", "ba", "ab", "bab", "aaa", "babab"}, []string{"", "b", "bb", "*"}},
		{"a*b", []string{"ab", "aab", "abb", "axyzb", "a\nb", "abab"}, []string{"a", "b", "", "ba", "xab", "abx"}},
		{"a*a", []string{"aa", "aaa", "aba"}, []string{"a", "", "ab", "ba"}},
		{"a*b*c", []string{"abc", "aXbYc", "abbcc", "abcbc", "aabbcc"}, []string{"acb", "abcd", "ac", "bc", "ab"}},
		{"**", []string{"", "a", "ab"}, nil},
		{"***a", []string{"a", "ba", "baa"}, []string{"", "b", "ab"}},
		{"a***", []string{"a", "ab"}, []string{"", "ba"}},
		{"a**b", []string{"ab", "aab", "axb"}, []string{"a", "b", "ba"}},
		{"**a**b**", []string{"ab", "xaybz", "aabb"}, []string{"ba", "a", "b", ""}},
		{"*?", []string{"a", "ab", "\x00"}, []string{""}},
		{"?*", []string{"a", "ab", "\x00"}, []string{""}},
		{"*?*", []string{"a", "ab", "abc"}, []string{""}},
		{"?*?", []string{"ab", "abc"}, []string{"", "a"}},
		{"*?*?*", []string{"ab", "abc"}, []string{"", "a"}},
		{"*[a]*", []string{"a", "bab"}, []string{"", "b"}},
		{"*ab", []string{"ab", "aab", "abab"}, []string{"a", "b", "aba", "abb"}},
		{"*aab", []string{"aab", "aaab", "aaaab", "abaab"}, []string{"ab", "aaba"}},
		{"*ab*ab", []string{"abab", "ababab", "abxab"}, []string{"ab", "aab", "aba"}},
		{`*\*`, []string{"*", "a*", "**"}, []string{"", "a", "*a"}},
		{`\**`, []string{"*", "*a", "**"}, []string{"", "a", "a*"}},
		{`*\**`, []string{"*", "a*", "*a", "a*a"}, []string{"", "a"}},
		{`\*\*`, []string{"**"}, []string{"", "*", "***", "aa"}},
	} {
		holdMatches(t, x.written, x.yes, x.no)
	}
}

// P10.1: each of ? * [ ] ! - : that is quoted wants itself alone.
func TestQuotedBytes(t *testing.T) {
	for _, x := range []struct {
		written string
		yes, no []string
	}{
		{`\?`, []string{"?"}, []string{"a", "", "??", "1"}},
		{`\*`, []string{"*"}, []string{"a", "", "**", "1"}},
		{`\[`, []string{"["}, []string{"a", "", "[["}},
		{`\[a]`, []string{"[a]"}, []string{"a", "[", "]"}},
		{`[a\]`, []string{"[a]"}, []string{"a", "]"}},
		{`\[a\]`, []string{"[a]"}, []string{"a"}},
		{`a\?b`, []string{"a?b"}, []string{"aab", "ab", "axb"}},
		{`a\*b`, []string{"a*b"}, []string{"aab", "ab", "axb"}},
		{`?\??`, []string{"a?b", "???"}, []string{"abc", "a?"}},
		{`\a\b`, []string{"ab"}, []string{"", "a", "b", "ba"}},
		{`\\`, []string{`\`}, []string{`\\`, ""}},
	} {
		holdMatches(t, x.written, x.yes, x.no)
	}
	// A plain \ is a byte as others.
	holdMatch(t, plain(`\*`), `\`, true)
	holdMatch(t, plain(`\*`), `\ab`, true)
	holdMatch(t, plain(`\*`), `*`, false)
	holdMatch(t, plain(`[\]]`), `\]`, true)
	holdMatch(t, plain(`[\]]`), `]`, false)
}

// P10.1: quoted that is shorter than the pattern, as long, longer, with bytes other than 49 and 48.
func TestQuoted(t *testing.T) {
	for _, x := range []struct {
		p, quoted string
		yes, no   []string
	}{
		{"**", "", []string{"", "*", "**", "a"}, nil},
		{"**", "1", []string{"*", "*a", "**"}, []string{"", "a"}},
		{"**", "0", []string{"", "a"}, nil},
		{"**", "01", []string{"*", "a*", "**"}, []string{"", "a", "*a"}},
		{"**", "10", []string{"*", "*a", "**"}, []string{"", "a", "a*"}},
		{"**", "11", []string{"**"}, []string{"", "*", "***", "a"}},
		{"**", "111", []string{"**"}, []string{"", "*", "***"}},
		{"**", "0011111", []string{"", "a", "ab"}, nil},
		{"**", "0000001", []string{"", "a", "ab"}, nil},
		{"?", "01", []string{"?", "a"}, []string{"", "aa"}},
		{"?*", "001", []string{"?", "a", "aa"}, []string{""}},
		{"[a]", "1", []string{"[a]"}, []string{"a"}},
		{"[a]", "01", []string{"a"}, []string{"[a]"}},
		{"[a]", "001", []string{"[a]"}, []string{"a"}},
		{"[a]", "0001", []string{"a"}, []string{"[a]"}},
		{"", "1", []string{""}, []string{"1", "*"}},
	} {
		for _, s := range x.yes {
			holdMatch(t, pat{x.p, x.quoted}, s, true)
		}
		for _, s := range x.no {
			holdMatch(t, pat{x.p, x.quoted}, s, false)
		}
	}
	for c := range 256 {
		mark := string([]byte{byte(c)})
		holdMatch(t, pat{"*", mark}, "ab", c != '1')
		holdMatch(t, pat{"?", mark}, "a", c != '1')
		holdMatch(t, pat{"[a]", mark}, "a", c != '1')
		holdMatch(t, pat{"*", mark}, "*", true)
		holdMatch(t, pat{"a*", "0" + mark}, "ab", c != '1')
		holdMatch(t, pat{"a*", mark + "0"}, "ab", true)
		holdMatch(t, pat{"[!a]", "0" + mark}, "!", true)
		holdMatch(t, pat{"[!a]", "0" + mark}, "b", c != '1')
		holdMatch(t, pat{"[a-c]", "00" + mark}, "b", c != '1')
		holdMatch(t, pat{"[a]", "00" + mark}, "a", c != '1')
		holdMatch(t, pat{"[[:alpha:]]", "00" + mark}, "x", c != '1')
		if got := patt.Magic("*", mark); got != (c != '1') {
			t.Errorf("Magic of * with %q quoted = %v", mark, got)
		}
	}
}

// P10.3: Magic tells of a plain ?, * or [, wherever it stands, also of a [ that closes no set.
func TestMagic(t *testing.T) {
	for _, written := range []string{
		"?", "*", "[", "[a]", "[a", "a[", "a?", "a*", "ab?cd", "ab*cd", "ab[cd", "?a", "*a", "][", "[]", "[!]", "[[:a:]]", "\x00*", "\xff?", "\xff[",
		`[a\]`, `\?*`, `*\?`, `\*[`, `\[?`, `?\[`, `\a\b*`,
	} {
		if p := of(written); !p.magic() {
			t.Errorf("Magic of %v = false", p)
		}
	}
	for _, written := range []string{
		"", "a", "ab.c/", "]", "!", "-", "a]", "!-]:", ":]", "\x00\xff", "1", "{a,b}", "^$+()|", "~", "\xbf\xaa\xdb",
		`\?`, `\*`, `\[`, `a\?\*\[b`, `\[a]`, `\[a\]`, `\a`, `\]`, `\[!a-]`,
	} {
		if p := of(written); p.magic() {
			t.Errorf("Magic of %v = true", p)
		}
	}
	for c := range 256 {
		text := string([]byte{byte(c)})
		want := c == '?' || c == '*' || c == '['
		for _, p := range []pat{plain(text), plain("ab" + text), plain(text + "ab"), {text, "0"}, {text, "01"}, {"a" + text, "1"}, {text + "a", "01"}} {
			if got := p.magic(); got != want {
				t.Errorf("Magic of %v = %v", p, got)
			}
		}
		for _, p := range []pat{allQuoted(text), {text, "11"}, {"a" + text, "01"}, {text + "a", "10"}} {
			if p.magic() {
				t.Errorf("Magic of %v = true", p)
			}
		}
	}
}
