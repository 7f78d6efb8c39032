package patt_test

import (
	"math/rand"
	"strings"
	"testing"
)

// holdTold wants Match to tell of some texts what the chapter, told a second way, does, and tells of how many it told true.
func holdTold(t *testing.T, p pat, all []string) int {
	t.Helper()
	yes, told := 0, p.told()
	for _, s := range all {
		want := told.MatchString(latin(s))
		holdMatch(t, p, s, want)
		if want {
			yes++
		}
	}
	return yes
}

// P10.1: all rows of few small patterns, on all short texts.
func TestAllShort(t *testing.T) {
	for _, x := range []struct {
		tokens   []string // as of reads them
		most     int
		alphabet string
		length   int
		yes      int // how many are told true, at least
	}{
		{strings.Split(`a b ? * \*`, " "), 5, "ab*", 4, 20000},
		{strings.Split(`a - [ ] ! \a \- \[ \] \!`, " "), 4, "a-[]!b", 3, 1000},
		{strings.Split(`[ ] ! - a \] \- \!`, " "), 5, "b]!-", 2, 1000},
		{strings.Split(`[ [: :] ] - 5 digit ! \: \[`, " "), 4, "5[:]d-", 3, 1000},
		{strings.Split(`[ [: : :] ] - alpha`, " "), 5, "al[:]-", 2, 1000},
		{strings.Split(`[a [!a [] [!] ] * ? - [[:alpha:]] :]`, " "), 4, "a]-[:", 3, 10000},
		{[]string{"[", "]", "!", "-", "\x00", "\x01", "\x80", "\xff"}, 4, "\x00\x01\x02\x7f\x80\xfe\xff]", 1, 100},
	} {
		t.Run(strings.Join(x.tokens, ","), func(t *testing.T) {
			t.Parallel()
			all, yes := texts(x.alphabet, x.length), 0
			rows(x.tokens, x.most, func(written string) {
				if !t.Failed() {
					yes += holdTold(t, of(written), all)
				}
			})
			if yes < x.yes {
				t.Errorf("just %d were told true", yes)
			}
		})
	}
}

// P10.1: all sets of a [, a row of few tokens, and a ], on each byte.
func TestAllShortSets(t *testing.T) {
	t.Parallel()
	var all []string
	for c := range 256 {
		all = append(all, string([]byte{byte(c)}))
	}
	rows([]string{"!", "-", "]", "a", `\-`, `\]`, "[:digit:]", "\xff"}, 4, func(written string) {
		if !t.Failed() {
			holdTold(t, of("["+written+"]"), all)
		}
	})
}

// tokens is of what wild patterns are made, as of reads it.
func tokens() []string {
	return []string{
		"a", "b", "5", "?", "*", "*", "[", "]", "!", "-", ":", "[:", ":]", "[a]", "[!a]", "[a-c]", "[!-a]", "[]a]", "[!]a]", "[a-", "-z]", "[!", "[]", "[[",
		"[[:alpha:]]", "[![:digit:]]", "[:space:]", "[:punct:]", "[:nosuch:]", "[::]", "[[:xdigit:]-]", "[.a.]", "[=a=]",
		`\*`, `\?`, `\[`, `\]`, `\!`, `\-`, `\:`, `\a`, "\x00", "\xff", "\x80", "[\x80-\xff]", "[!\x00-\x7f]", "\n", "/", ".", "1", "0",
	}
}

// wildPattern is a pattern of up to so many tokens by a seed; its quoted is as it is, or cut, or has more, or has other bytes.
func wildPattern(r *rand.Rand, most int) pat {
	var written strings.Builder
	all := tokens()
	for range r.Intn(most + 1) {
		written.WriteString(all[r.Intn(len(all))])
	}
	p := of(written.String())
	switch r.Intn(6) {
	case 0:
		p.quoted = p.quoted[:r.Intn(len(p.quoted)+1)]
	case 1:
		p.quoted += wildText(r, "01", r.Intn(5))
	case 2:
		p.quoted = wildText(r, "00001", r.Intn(len(p.text)+3))
	}
	return p
}

// nearText is a text by a seed that a pattern often wants: its pieces, each of which gives way to bytes that it may want.
func nearText(r *rand.Rand, p pat) string {
	var row []byte
	for at := range len(p.text) {
		switch c := p.text[at]; {
		case p.isPlain(at) && c == '*':
			row = append(row, wildText(r, "ab5", r.Intn(3))...)
		case p.isPlain(at) && c == '?':
			row = append(row, wildText(r, "ab5", 1)...)
		case p.isPlain(at) && c == '[' && strings.Contains(p.text[at:], "]"):
			row = append(row, wildText(r, "abc5-!]:[\x00\xff", 1)...)
		default:
			row = append(row, c)
		}
	}
	if at := r.Intn(len(row) + 1); r.Intn(3) == 0 {
		row = append(row[:at], row[min(at+r.Intn(6), len(row)):]...)
	}
	return string(row)
}

// shrunk is a text by a seed with each set of a pattern's text cut to one byte of it.
func shrunk(r *rand.Rand, p pat) string {
	row := []byte{}
	for at := 0; at < len(p.text); at++ {
		end := strings.IndexByte(p.text[at:], ']')
		if p.isPlain(at) && p.text[at] == '[' && end > 1 {
			row = append(row, p.text[at+1+r.Intn(end)])
			at += end
		} else if p.isPlain(at) && p.text[at] == '*' {
			row = append(row, wildText(r, "ab", r.Intn(3))...)
		} else {
			row = append(row, p.text[at])
		}
	}
	return string(row)
}

// P10.1, P10.2: patterns by seeds, on texts that are near to them, and on wild ones.
func TestBySeeds(t *testing.T) {
	t.Parallel()
	met := map[bool]int{}
	for seed := range int64(6000) {
		r := rand.New(rand.NewSource(seed))
		p := wildPattern(r, 1+r.Intn(12))
		told := p.told()
		for range 12 {
			s := wildText(r, "ab5[]", r.Intn(6))
			switch r.Intn(3) {
			case 0:
				s = nearText(r, p)
			case 1:
				s = shrunk(r, p)
			}
			want := told.MatchString(latin(s))
			met[want]++
			holdMatch(t, p, s, want)
			if seed%4 == 0 && len(s) < 30 {
				holdCounted(t, p, s)
			}
		}
		if t.Failed() {
			t.Fatalf("seed %d", seed)
		}
	}
	if met[true] < 8000 || met[false] < 8000 {
		t.Errorf("Match told true %d times, false %d times", met[true], met[false])
	}
}

// P10.3: Magic tells of a plain ?, * or [, of patterns by seeds.
func TestMagicBySeeds(t *testing.T) {
	met := map[bool]int{}
	for seed := range int64(4000) {
		r := rand.New(rand.NewSource(seed))
		p := wildPattern(r, 3)
		want := strings.ContainsAny(p.runes(), "?*[")
		met[want]++
		if got := p.magic(); got != want {
			t.Fatalf("seed %d: Magic of %v = %v", seed, p, got)
		}
	}
	if met[true] < 500 || met[false] < 500 {
		t.Errorf("Magic told true %d times, false %d times", met[true], met[false])
	}
}
