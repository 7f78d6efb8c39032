package patt_test

import (
	"math/rand"
	"strings"
	"testing"
)

// P10.2: Prefix, the least and the greatest length.
func TestPrefix(t *testing.T) {
	for _, x := range []struct {
		written, s  string
		least, most int
	}{
		// what wants nothing
		{"", "", 0, 0},
		{"", "abc", 0, 0},
		{"*", "", 0, 0},
		{"*", "abc", 0, 3},
		{"**", "abc", 0, 3},
		{"a*", "abc", 1, 3},
		{"*a", "abc", 1, 1},
		{"*a", "abcabca", 1, 7},
		{"*/", "a/b/c", 2, 4},
		{"*/*", "a/b/c", 2, 5},
		{"a", "abc", 1, 1},
		{"abc", "abc", 3, 3},
		{"abcd", "abc", -1, -1},
		{"b", "abc", -1, -1},
		{"a", "", -1, -1},
		{"?", "", -1, -1},
		{"?", "a", 1, 1},
		{"?", "\xff\x00", 1, 1},
		{"??", "a", -1, -1},
		{"?*", "abc", 1, 3},
		{"*?", "abc", 1, 3},
		{"[a-c]", "cab", 1, 1},
		{"[!a-c]", "cab", -1, -1},
		{"*[!a]", "aabab", 3, 5},
		{"*[!a]", "aaa", -1, -1},
		{"[", "[a", 1, 1},
		{"[a", "[ab", 2, 2},
		{"[*", "[ab", 1, 3},
		{`\*`, "*a", 1, 1},
		{`\*`, "a*", -1, -1},
		{`*\*`, "a*b*c", 2, 4},
		// lengths with gaps between them
		{"*a", "abbabba", 1, 7},
		{"*b", "abbabba", 2, 6},
		{"a*b", "aabxbxxb", 3, 8},
		{"a*b", "aabxbxxbc", 3, 8},
		{"?*a", "aabaab", 2, 5},
		{"*ab*b", "xabbab", 4, 6},
		{"*\x00", "a\x00b\x00", 2, 4},
		{"*[\x80-\xff]", "a\x80b\xffc", 2, 4},
	} {
		holdPrefix(t, of(x.written), x.s, x.least, x.most)
	}
}

// P10.2: Suffix, the place of the fewest bytes (not most), and of the most.
func TestSuffix(t *testing.T) {
	for _, x := range []struct {
		written, s   string
		fewest, most int
	}{
		// what wants nothing
		{"", "", 0, 0},
		{"", "abc", 3, 3},
		{"*", "", 0, 0},
		{"*", "abc", 3, 0},
		{"**", "abc", 3, 0},
		{"*c", "abc", 2, 0},
		{"c*", "abc", 2, 2},
		{"c*", "cabcab", 3, 0},
		{".*", "x.tar.gz", 5, 1},
		{"/*", "a/b/c", 3, 1},
		{"*/*", "a/b/c", 3, 0},
		{"c", "abc", 2, 2},
		{"abc", "abc", 0, 0},
		{"zabc", "abc", -1, -1},
		{"b", "abc", -1, -1},
		{"a", "", -1, -1},
		{"?", "", -1, -1},
		{"?", "a", 0, 0},
		{"?", "\xff\x00", 1, 1},
		{"??", "a", -1, -1},
		{"??", "abc", 1, 1},
		{"?*", "abc", 2, 0},
		{"*?", "abc", 2, 0},
		{"bc", "abc", 1, 1},
		{"cb", "abc", -1, -1},
		{"[a-c]", "xab", 2, 2},
		{"[!a-c]", "xab", -1, -1},
		{"[!b]*", "babab", 3, 1},
		{"[!a]*", "aaa", -1, -1},
		{"[", "a[", 1, 1},
		{"[a", "b[a", 1, 1},
		{"*[", "ab[", 2, 0},
		{`\*`, "a*", 1, 1},
		{`\*`, "*a", -1, -1},
		{`\**`, "a*b*c", 3, 1},
		// places with gaps between them
		{"a*", "abbabba", 6, 0},
		{"b*", "abbabba", 5, 1},
		{"a*b", "xaabxab", 5, 1},
		{"a*b", "xaabxabc", -1, -1},
		{"a*?", "aabaab", 4, 0},
		{"a*ab", "aabaab", 3, 0},
		{"\x00*", "a\x00b\x00", 3, 1},
		{"[\x80-\xff]*", "a\x80b\xffc", 3, 1},
	} {
		holdSuffix(t, of(x.written), x.s, x.fewest, x.most)
	}
}

// someWritten is patterns of all kinds, as of reads them.
func someWritten() []string {
	return []string{
		"", "a", "b", "ab", "ba", "aab", "?", "??", "*", "**", "*a", "a*", "*a*", "a*b", "*ab", "ba*", "*a*b*", "?*", "*?", "?*?", "*?b", "a?*",
		"[a]", "[!a]", "[ab]", "[!ab]", "[a-b]*", "*[!a]", "[!a]*", "*[a]*[b]", "[", "[a", "*[", "[*", "[[]", "[]]", "*[]]*", "[!]]", "[[:alpha:]]*", "*[[:alpha:]]", "[[:alpha:]",
		`\*`, `*\*`, `\**`, `\?`, `\[`, `\[a]`, `[a\]`, `[a\]]`, `\a*`,
		"\x00", "*\x00", "\xff*", "[\x80-\xff]", "*[!\x80-\xff]", "[!\x00]*",
	}
}

// P10.2: Prefix and Suffix tell just what Match tells of each length, of short texts.
func TestCountedShort(t *testing.T) {
	t.Parallel()
	all := append(texts("ab[", 5), texts("a]*\xff\x00", 3)...)
	for _, written := range someWritten() {
		p := of(written)
		for _, s := range all {
			holdCounted(t, p, s)
		}
	}
}

// P10.2: likewise, of pairs of patterns, one behind the other, and of longer texts by seeds.
func TestCountedLonger(t *testing.T) {
	t.Parallel()
	for seed := range int64(40) {
		r := rand.New(rand.NewSource(seed))
		for _, written := range someWritten() {
			p := of(written)
			for range r.Intn(4) {
				p = p.then(of(someWritten()[r.Intn(len(someWritten()))]))
			}
			holdCounted(t, p, wildText(r, "aaab", r.Intn(40)))
			holdCounted(t, p, wildText(r, "ab[]*?\x00\xff", r.Intn(40)))
		}
	}
}

// P10.1, P10.2: rows of up to some 200 wants, with a * at one place of each, on texts of just as many bytes, fewer and more.
func TestRowsOfWants(t *testing.T) {
	t.Parallel()
	for n := range 200 {
		for _, ahead := range []int{0, 1, n / 2, 62, 63, 64, 65, 126, 127, 128, 129, n - 1, n} {
			if ahead < 0 || ahead > n {
				continue
			}
			first, last := strings.Repeat("a", ahead), strings.Repeat("b", n-ahead)
			p, straight := plain(first+"*"+last), plain(first+last)
			holdMatch(t, straight, first+last, true)
			holdMatch(t, p, first+last, true)
			holdMatch(t, p, first+"x"+last, true)
			holdMatch(t, p, first+"bbaa"+last, true)
			holdMatch(t, straight, first+"x"+last, false)
			if ahead > 0 {
				holdMatch(t, p, first[1:]+last, false)
				holdMatch(t, straight, first[1:]+last, false)
				holdMatch(t, p, "b"+first[1:]+last, false)
				holdMatch(t, p, first[1:]+"x"+last, false)
			}
			if ahead < n {
				holdMatch(t, p, first+last[1:], false)
				holdMatch(t, straight, first+last[1:], false)
				holdMatch(t, p, first+last[1:]+"a", false)
				holdPrefix(t, p, first+last+last+"c", n, n+len(last))
			}
			holdPrefix(t, straight, first+last+"c", n, n)
			holdSuffix(t, straight, "c"+first+last, 1, 1)
		}
	}
}
