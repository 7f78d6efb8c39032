package patt_test

import (
	"math/rand"
	"strings"
	"sync"
	"testing"
)

// P10.1 to P10.3, wrong inputs: patterns that are cut anywhere, with any bytes changed, and any quoted: all calls end, and none tells of more than there is.
func TestWrong(t *testing.T) {
	t.Parallel()
	for seed := range int64(3000) {
		r := rand.New(rand.NewSource(seed))
		p := wildPattern(r, 10)
		p.text = p.text[:r.Intn(len(p.text)+1)]
		s := wildText(r, "ab[]*?!-:", r.Intn(20))
		holdMatch(t, p, s, p.told().MatchString(latin(s)))
		holdCounted(t, p, s)
		for _, most := range []bool{false, true} {
			if n := p.prefix(s, most); n < -1 || n > len(s) {
				t.Errorf("Prefix of %v on %q = %d", p, s, n)
			}
			if n := p.suffix(s, most); n < -1 || n > len(s) {
				t.Errorf("Suffix of %v on %q = %d", p, s, n)
			}
		}
		if t.Failed() {
			t.Fatalf("seed %d", seed)
		}
	}
}

// P10.1: a pattern's beginnings and ends, each of which may leave a set, a range or a class open.
func TestCut(t *testing.T) {
	for _, written := range []string{"[!]a-c[:digit:]x-]y*", `a[\]-\^[:al\pha:]-z[:upper:]]?`, "[[:space:]-[:punct:]]]", "*[--/[:lower:]-]?[!!-#]"} {
		p := of(written)
		for at := range len(p.text) + 1 {
			for end := at; end <= len(p.text); end++ {
				cut := pat{p.text[at:end], p.quoted[at:end]}
				holdTold(t, cut, []string{"", "a", "5", cut.text, "]", "[", "-", "xy", "[a", "a]"})
			}
		}
	}
}

// 0.1: arguments of more bytes than may be make no call panic, or go on for ever.
func TestTooLong(t *testing.T) {
	t.Parallel()
	for _, text := range []string{"*a", "[", "[a-", "[[:alpha:]", "?", "*", "[a]*", "[[:a"} {
		p := plain(filled(text, 40000))
		s := filled("ab[", 40000)
		p.match(s)
		p.prefix(s, true)
		p.suffix(s, false)
		p.magic()
		pat{p.text, filled("01", 50000)}.match(s)
		pat{text, p.text}.match(s)
	}
	holdMatch(t, plain(filled("*a", 40000)), filled("a", 20000), true)
	holdMatch(t, plain(filled("*a", 40000)), filled("a", 19999), false)
	holdMatch(t, plain("*"), filled("a", 1<<20), true)
}

// 0.5: what is told hangs on no call ahead, and on none at the same time.
func TestNothingKept(t *testing.T) {
	all := texts("ab[]", 3)
	first := map[string]bool{}
	for _, written := range someWritten() {
		for _, s := range all {
			first[written+"\n"+s] = of(written).match(s)
		}
	}
	var group sync.WaitGroup
	for range 8 {
		group.Go(func() {
			for _, s := range all {
				for _, written := range someWritten() {
					if of(written).match(s) != first[written+"\n"+s] {
						t.Errorf("Match of %v on %q tells another thing than before", of(written), s)
					}
				}
			}
		})
	}
	group.Wait()
	// As many ] as there are [ ahead of a call make no set of what is behind.
	p := plain(strings.Repeat("[", 5))
	p.match("]]]]]")
	holdMatch(t, p, "[[[[[", true)
}
