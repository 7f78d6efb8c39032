package patt_test

import (
	"math/rand"
	"strings"
	"testing"
)

// holdItself wants a pattern to have no Magic, and to want just itself: none of some other texts, nor any that is a byte more, a byte less, or has one other byte.
func holdItself(t *testing.T, p pat, others []string) {
	t.Helper()
	if p.magic() {
		t.Errorf("Magic of %v", p)
	}
	text := p.text
	holdMatch(t, p, text, true)
	holdPrefix(t, p, text+"x", len(text), len(text))
	holdSuffix(t, p, "x"+text, 1, 1)
	for at := range len(text) + 1 {
		holdMatch(t, p, text[:at]+"x"+text[at:], false)
		if at < len(text) {
			holdMatch(t, p, text[:at]+text[at+1:], false)
			holdMatch(t, p, text[:at]+string([]byte{text[at] + 1})+text[at+1:], false)
		}
	}
	for _, s := range others {
		holdMatch(t, p, s, s == text)
	}
}

// P10.4: a pattern without Magic wants just itself, whatever of it is quoted.
func TestWithoutMagic(t *testing.T) {
	t.Parallel()
	all := texts("a]!\x00", 4)
	for _, text := range all {
		for _, quoted := range []string{"", "1", "01", "0110", "111111"} {
			holdItself(t, pat{text, quoted}, all)
		}
	}
	met := 0
	for seed := range int64(6000) {
		r := rand.New(rand.NewSource(seed))
		p := wildPattern(r, 8)
		if strings.ContainsAny(p.runes(), "?*[") {
			// Those bytes quoted, it has no Magic any more.
			marks := []byte(p.marks())
			for at := range len(p.text) {
				if strings.IndexByte("?*[", p.text[at]) >= 0 {
					marks[at] = '1'
				}
			}
			p.quoted = string(marks)
			met++
		}
		holdItself(t, p, []string{"", "a", wildText(r, "ab[]*?", len(p.text))})
	}
	if met < 3000 {
		t.Errorf("just %d patterns had Magic", met)
	}
}

// P10.4: any pattern all of whose bytes are quoted wants just itself.
func TestAllQuoted(t *testing.T) {
	t.Parallel()
	all := texts("a[]*?!-", 3)
	for _, text := range all {
		holdItself(t, allQuoted(text), all)
	}
	for _, text := range []string{"[[:digit:]]", "[!a-z]", "[a]", "*", "?*[", "[]]", `\*`, "\x00\xff", "[\x00-\xff]", run(0, 255), strings.Repeat("*[a]?", 60)} {
		holdItself(t, allQuoted(text), []string{"", "5", "a", "b", "ab", "[a]", "[", "\x00", "\xff"})
	}
	for seed := range int64(1000) {
		r := rand.New(rand.NewSource(seed))
		p := wildPattern(r, 10)
		holdItself(t, allQuoted(p.text), []string{"", nearText(r, p), shrunk(r, p)})
		p.quoted = allQuoted(p.text).quoted + wildText(r, "01", 5)
		holdItself(t, p, []string{"", nearText(r, p), shrunk(r, p)})
	}
}

// holdPair wants two patterns, one behind the other, to want just the texts that are one of the first's and one of the second's; it tells how many they want.
func holdPair(t *testing.T, p, q pat, all []string) int {
	t.Helper()
	yes, both := 0, p.then(q)
	for _, s := range all {
		want := false
		for n := range len(s) + 1 {
			want = want || p.match(s[:n]) && q.match(s[n:])
		}
		if got := both.match(s); got != want {
			t.Errorf("%v, and behind it %v: Match on %q = %v", p, q, s, got)
		}
		if want {
			yes++
		}
	}
	return yes
}

// P10.5: two patterns, one behind the other, the first of which closes all its sets.
func TestPairs(t *testing.T) {
	t.Parallel()
	all := texts("ab]", 4)
	all = append(all, texts("[a]!-:", 2)...)
	pairs, yes := 0, 0
	for _, first := range someWritten() {
		for _, second := range append(someWritten(), "]", "a]", "!]", "-a]", ":]]", "]a]", "[:digit:]]") {
			if p := of(first); p.closesAll() {
				pairs++
				yes += holdPair(t, p, of(second), all)
			}
		}
	}
	if pairs < 1500 || yes < 20000 {
		t.Errorf("%d pairs, %d texts", pairs, yes)
	}
}

// P10.5: also where the first one has a [ that it does not close, and the second one neither.
func TestPairsNotClosed(t *testing.T) {
	all := texts("[a]b", 4)
	for _, first := range []string{"[", "a[", "[a", "[!", "[a-", "*[", "[[", "[?", "[*", `[\]`, "[]"} {
		for _, second := range []string{"", "a", "*", "?", "[", "*a", "a*", `\]`, `a\]`, "[a", "!", "-b"} {
			holdPair(t, of(first), of(second), all)
		}
	}
}

// P10.5: by seeds, on texts that are near to both.
func TestPairsBySeeds(t *testing.T) {
	t.Parallel()
	pairs, yes := 0, 0
	for seed := range int64(6000) {
		r := rand.New(rand.NewSource(seed))
		p, q := wildPattern(r, 5), wildPattern(r, 5)
		if !p.closesAll() {
			continue
		}
		pairs++
		yes += holdPair(t, p, q, []string{
			nearText(r, p) + nearText(r, q), shrunk(r, p) + shrunk(r, q), shrunk(r, p) + wildText(r, "ab5", 2), wildText(r, "ab5", 4),
		})
		if t.Failed() {
			t.Fatalf("seed %d", seed)
		}
	}
	if pairs < 2000 || yes < 2000 {
		t.Errorf("%d pairs, %d texts", pairs, yes)
	}
}

// holdTurned wants a set of such members to want each byte just if it does not, turned; of members that are closed ahead of the last ] it tells false.
func holdTurned(t *testing.T, members pat) bool {
	t.Helper()
	straight := plain("[").then(members).then(plain("]"))
	turned := plain("[!").then(members).then(plain("]"))
	if len(straight.pieces()) != 1 {
		return false
	}
	for c := range 256 {
		one := string([]byte{byte(c)})
		if straight.match(one) == turned.match(one) {
			t.Errorf("%v and %v tell the same of byte %d", straight, turned, c)
		}
	}
	for _, s := range []string{"", "aa", "\x00\x00", straight.text, turned.text} {
		holdMatch(t, straight, s, false)
		holdMatch(t, turned, s, false)
	}
	return true
}

// P10.6: a set that is turned wants just the bytes that it does not, of all short rows of members.
func TestTurned(t *testing.T) {
	t.Parallel()
	sets := 0
	rows([]string{"a", "c", "-", `\-`, "!", `\!`, `\]`, "[", "\x00", "\xff", "[:alpha:]", "[::]", ":"}, 3, func(written string) {
		// A ! ahead of all others would turn the one that is not to be.
		if written == "" || written[0] == '!' || t.Failed() {
			return
		}
		for _, members := range []pat{of(written), of("]" + written)} {
			if holdTurned(t, members) {
				sets++
			}
		}
	})
	if sets < 3500 {
		t.Errorf("just %d sets", sets)
	}
	for name := range classes() {
		if !holdTurned(t, plain("[:"+name+":]")) || !holdTurned(t, plain("_[:"+name+":]\x80-\xff")) {
			t.Errorf("no set with %s", name)
		}
	}
}

// P10.6: by seeds.
func TestTurnedBySeeds(t *testing.T) {
	t.Parallel()
	for seed := range int64(3000) {
		r := rand.New(rand.NewSource(seed))
		text := wildText(r, "abc--!:[*?09", 1+r.Intn(12))
		text = strings.TrimLeft(strings.ReplaceAll(text, "]", "x"), "!") + "y"
		if !holdTurned(t, pat{text, wildText(r, "0001", len(text))}) {
			t.Errorf("no set of %q", text)
		}
		if t.Failed() {
			t.Fatalf("seed %d", seed)
		}
	}
}
