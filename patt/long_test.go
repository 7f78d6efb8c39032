package patt_test

import (
	"math/rand"
	"strings"
	"testing"
)

// longest is how many bytes an argument may have.
const longest = 4096

// filled is a text again and again, up to so many bytes.
func filled(s string, length int) string {
	return strings.Repeat(s, length/len(s)+1)[:length]
}

// P10.1, P10.2: patterns and texts of 4096 bytes, with many *.
func TestLong(t *testing.T) {
	as := filled("a", longest)
	for _, x := range []struct {
		name string
		p    pat
		s    string
		want bool
	}{
		{"as", plain(as), as, true},
		{"as, one less", plain(as), as[1:], false},
		{"as, the last one another", plain(as), as[1:] + "b", false},
		{"as, the first one another", plain(as), "b" + as[1:], false},
		{"any", plain(filled("?", longest)), as, true},
		{"any, one less", plain(filled("?", longest)), as[1:], false},
		{"many", plain(filled("*", longest)), as, true},
		{"many of none", plain(filled("*", longest)), "", true},
		{"many quoted", allQuoted(filled("*", longest)), as, false},
		{"many quoted of itself", allQuoted(filled("*", longest)), filled("*", longest), true},
		{"many as", plain(filled("*a", longest)), as, true},
		{"many as of half", plain(filled("*a", longest)), as[:2048], true},
		{"many as of one less", plain(filled("*a", longest)), as[:2047], false},
		{"many as of bs", plain(filled("*a", longest)), filled("b", longest), false},
		{"many as, then a b", plain(filled("*a", longest-1) + "b"), as, false},
		{"many as, then a *b", plain(filled("*a", longest-2) + "*b"), as, false},
		{"many as, then a b that is there", plain(filled("*a", longest-1) + "b"), as[1:] + "b", true},
		{"as and many", plain(filled("a*", longest)), as, true},
		{"many of two", plain(filled("*a*b", longest)), filled("ab", longest), true},
		{"many of two the other way", plain(filled("*a*b", longest)), filled("ba", longest-1), true},
		{"many of two, the last one another", plain(filled("*a*b", longest)), filled("ba", longest), false},
		{"many of two, too few", plain(filled("*a*b", longest)), filled("aab", 3069), false},
		{"many any", plain(filled("*?", longest)), as[:2048], true},
		{"many any of one less", plain(filled("*?", longest)), as[:2047], false},
		{"many sets", plain(filled("*[a-c]", longest-4)), filled("abcd", longest-1), true},
		{"many sets of none", plain(filled("*[!a-c]", longest-1)), filled("abc", longest), false},
		{"many classes", plain(filled("*[[:alpha:]]", longest-4)), filled("ab1", longest), true},
		{"many classes of none", plain(filled("*[[:alpha:]]", longest-4)), filled("12", longest), false},
		{"open", plain(filled("[", longest)), filled("[", longest), true},
		{"open, one less", plain(filled("[", longest)), filled("[", longest-1), false},
		{"open and many", plain(filled("[*", longest)), filled("[a", longest), true},
		{"open ranges", plain(filled("[a-", longest)), filled("[a-", longest), true},
		{"open classes", plain(filled("[[:alpha:", longest)), filled("[[:alpha:", longest), true},
		{"open turned", plain(filled("[!", longest)), filled("[!", longest), true},
		{"one set", plain("[" + filled("a-c", longest-2) + "]"), "b", true},
		{"one set of none", plain("[" + filled("a-c", longest-2) + "]"), "d", false},
		{"one set turned", plain("[!" + filled("a-c", longest-3) + "]"), "d", true},
		{"one set of classes", plain("[" + filled("[:alpha:]", longest-3) + "]"), "a", true},
		{"one set of opens", plain("[" + filled("[", longest-2) + "]"), "[", true},
	} {
		if got := x.p.match(x.s); got != x.want {
			t.Errorf("%s: Match = %v", x.name, got)
		}
	}
}

// P10.2: Prefix and Suffix of 4096 bytes.
func TestLongLengths(t *testing.T) {
	as, manyAs := filled("a", longest), plain(filled("*a", longest))
	holdPrefix(t, manyAs, as, 2048, longest)
	holdSuffix(t, manyAs, as, 2048, 0)
	holdSuffix(t, plain(filled("a*", longest)), as, 2048, 0)
	holdPrefix(t, plain(filled("a*", longest)), as, 2048, longest)
	holdSuffix(t, plain("*"+filled("a*", 2001)), as, longest-1001, 0)
	holdPrefix(t, manyAs, as[:2047], -1, -1)
	holdPrefix(t, manyAs, as[:2048]+filled("b", 2048), 2048, 2048)
	holdPrefix(t, plain(filled("*", longest)), as, 0, longest)
	holdSuffix(t, plain(filled("*", longest)), as, longest, 0)
	holdPrefix(t, plain("?"), as, 1, 1)
	holdSuffix(t, plain("?"), as, longest-1, longest-1)
	holdPrefix(t, plain("*/"), filled("a/b", longest), 2, longest-2)
	holdSuffix(t, plain("/*"), filled("a/b", longest), longest-3, 1)
	holdPrefix(t, plain(as), as, longest, longest)
	holdSuffix(t, plain(as), as, 0, 0)
	holdPrefix(t, plain(as), as[1:], -1, -1)
	holdSuffix(t, plain(as), as[1:], -1, -1)
	holdPrefix(t, plain(""), as, 0, 0)
	holdSuffix(t, plain(""), as, longest, longest)
	holdPrefix(t, plain(filled("[", longest)), filled("[", longest), longest, longest)
}

// P10.3: Magic of 4096 bytes, of which the last one alone can have it.
func TestLongMagic(t *testing.T) {
	as := filled("a", longest-1)
	for c := range 256 {
		p := plain(as + string([]byte{byte(c)}))
		if got, want := p.magic(), c == '?' || c == '*' || c == '['; got != want {
			t.Errorf("Magic of %v and byte %d behind = %v", plain(as), c, got)
		}
		if allQuoted(p.text).magic() {
			t.Errorf("Magic of %v and byte %d behind, quoted", plain(as), c)
		}
		if got, want := (pat{p.text, filled("1", longest-1)}).magic(), c == '?' || c == '*' || c == '['; got != want {
			t.Errorf("Magic of %v and byte %d behind, which alone is plain = %v", plain(as), c, got)
		}
	}
}

// P10.1, P10.2: long patterns by seeds, on long texts.
func TestLongBySeeds(t *testing.T) {
	t.Parallel()
	met := map[bool]int{}
	for seed := range int64(60) {
		r := rand.New(rand.NewSource(seed))
		p := wildPattern(r, []int{20, 60, 700}[r.Intn(3)])
		if len(p.text) > longest {
			p.text = p.text[:longest]
		}
		told := p.told()
		for range 4 {
			s := nearText(r, p)
			if r.Intn(2) == 0 {
				s = shrunk(r, p)
			}
			if len(s) > longest {
				s = s[:longest]
			}
			want := told.MatchString(latin(s))
			met[want]++
			holdMatch(t, p, s, want)
		}
	}
	if met[true] < 5 || met[false] < 5 {
		t.Errorf("Match told true %d times, false %d times", met[true], met[false])
	}
}

// P10.1, P10.2: long rows of few kinds of wants by seeds, which long texts often are as they want.
func TestLongRows(t *testing.T) {
	t.Parallel()
	met := map[bool]int{}
	for seed := range int64(120) {
		r := rand.New(rand.NewSource(seed))
		var written, text strings.Builder
		kinds := []struct{ written, may string }{{"a", "a"}, {"?", "ab"}, {"[ab]", "ab"}, {"[!b]", "a"}, {"[[:lower:]]", "ab"}, {"*", "ab"}, {`\*`, "*"}}
		for range 50 + r.Intn(400) {
			x := kinds[r.Intn(len(kinds))]
			written.WriteString(x.written)
			n := 1
			if x.written == "*" {
				n = r.Intn(4)
			}
			for range n {
				text.WriteByte(x.may[r.Intn(len(x.may))])
			}
		}
		p, s := of(written.String()), text.String()
		holdMatch(t, p, s, true)
		if n := p.prefix(s, true); n != len(s) {
			t.Errorf("seed %d: Prefix, the most = %d, not %d", seed, n, len(s))
		}
		if n := p.suffix(s, true); n != 0 {
			t.Errorf("seed %d: Suffix, the most = %d, not 0", seed, n)
		}
		other := []byte(s)
		other[r.Intn(len(other))] = "ab*"[r.Intn(3)]
		want := p.told().MatchString(latin(string(other)))
		met[want]++
		holdMatch(t, p, string(other), want)
		if seed%10 == 0 {
			holdCounted(t, p, s+"b")
			holdCounted(t, p, "b"+s)
		}
	}
	if met[true] < 20 || met[false] < 20 {
		t.Errorf("Match told true %d times, false %d times", met[true], met[false])
	}
}
