package patt_test

import (
	"math/rand"
	"strconv"
	"strings"
	"testing"

	"windlass/patt"
)

// pat is a pattern's bytes, and which of them are quoted.
type pat struct{ text, quoted string }

// of is a pattern that is written with a \ ahead of each byte that is quoted.
func of(written string) pat {
	var text, quoted []byte
	for at := 0; at < len(written); at++ {
		mark := byte('0')
		if written[at] == '\\' {
			at, mark = at+1, '1'
		}
		text, quoted = append(text, written[at]), append(quoted, mark)
	}
	return pat{string(text), string(quoted)}
}

// plain is a pattern none of whose bytes is quoted.
func plain(text string) pat { return pat{text, ""} }

// allQuoted is a pattern all of whose bytes are quoted.
func allQuoted(text string) pat { return pat{text, strings.Repeat("1", len(text))} }

// then is a pattern with another one behind it.
func (p pat) then(q pat) pat { return pat{p.text + q.text, p.marks() + q.marks()} }

// marks is quoted, as long as the pattern is.
func (p pat) marks() string {
	if len(p.quoted) > len(p.text) {
		return p.quoted[:len(p.text)]
	}
	return p.quoted + strings.Repeat("0", len(p.text)-len(p.quoted))
}

func (p pat) isPlain(at int) bool { return p.marks()[at] != '1' }

func (p pat) match(s string) bool { return patt.Match(p.text, p.quoted, s) }

func (p pat) prefix(s string, most bool) int { return patt.Prefix(p.text, p.quoted, s, most) }

func (p pat) suffix(s string, most bool) int { return patt.Suffix(p.text, p.quoted, s, most) }

func (p pat) magic() bool { return patt.Magic(p.text, p.quoted) }

// String is a pattern in words.
func (p pat) String() string {
	return short(p.text) + " with " + short(p.quoted) + " quoted"
}

// short is a text's beginning in words.
func short(s string) string {
	if len(s) <= 80 {
		return strconv.Quote(s)
	}
	return strconv.Quote(s[:80]) + ".. (" + strconv.Itoa(len(s)) + " bytes)"
}

// holdMatch wants a pattern to want a text, or not.
func holdMatch(t *testing.T, p pat, s string, want bool) {
	t.Helper()
	if got := p.match(s); got != want {
		t.Errorf("Match of %v on %s = %v", p, short(s), got)
	}
}

// holdMatches wants a pattern, as of reads it, to want all of some texts, and none of others.
func holdMatches(t *testing.T, written string, yes, no []string) {
	t.Helper()
	for _, s := range yes {
		holdMatch(t, of(written), s, true)
	}
	for _, s := range no {
		holdMatch(t, of(written), s, false)
	}
}

// holdSet wants a pattern to want just the texts of one byte that is a member (not, if it has more bytes, itself).
func holdSet(t *testing.T, p pat, members string) {
	t.Helper()
	for c := range 256 {
		one := string([]byte{byte(c)})
		holdMatch(t, p, one, strings.Contains(members, one))
		holdMatch(t, p, one+one, false)
	}
	holdMatch(t, p, "", false)
	if len(p.text) > 1 {
		holdMatch(t, p, p.text, false)
	}
}

// holdPrefix wants Prefix to tell such a least and such a greatest length.
func holdPrefix(t *testing.T, p pat, s string, least, most int) {
	t.Helper()
	if got := p.prefix(s, false); got != least {
		t.Errorf("Prefix of %v on %s, the least = %d, not %d", p, short(s), got, least)
	}
	if got := p.prefix(s, true); got != most {
		t.Errorf("Prefix of %v on %s, the most = %d, not %d", p, short(s), got, most)
	}
}

// holdSuffix wants Suffix to tell such a place of the fewest bytes, and such a one of the most.
func holdSuffix(t *testing.T, p pat, s string, fewest, most int) {
	t.Helper()
	if got := p.suffix(s, false); got != fewest {
		t.Errorf("Suffix of %v on %s, the least = %d, not %d", p, short(s), got, fewest)
	}
	if got := p.suffix(s, true); got != most {
		t.Errorf("Suffix of %v on %s, the most = %d, not %d", p, short(s), got, most)
	}
}

// holdCounted wants Prefix and Suffix to tell just what Match tells of each length.
func holdCounted(t *testing.T, p pat, s string) {
	t.Helper()
	first, last := []int{}, []int{}
	for n := range len(s) + 1 {
		if p.match(s[:n]) {
			first = append(first, n)
		}
		if p.match(s[n:]) {
			last = append(last, n)
		}
	}
	if len(first) == 0 {
		holdPrefix(t, p, s, -1, -1)
	} else {
		holdPrefix(t, p, s, first[0], first[len(first)-1])
	}
	if len(last) == 0 {
		holdSuffix(t, p, s, -1, -1)
	} else {
		holdSuffix(t, p, s, last[len(last)-1], last[0])
	}
}

// run is the bytes from one to another one.
func run(first, last int) string {
	var row []byte
	for c := first; c <= last; c++ {
		row = append(row, byte(c))
	}
	return string(row)
}

// without is all bytes but some.
func without(some string) string {
	var row []byte
	for c := range 256 {
		if strings.IndexByte(some, byte(c)) < 0 {
			row = append(row, byte(c))
		}
	}
	return string(row)
}

// wildText is so many bytes of any kind, those of an alphabet often among them.
func wildText(r *rand.Rand, alphabet string, length int) string {
	row := make([]byte, length)
	for i := range row {
		row[i] = byte(r.Intn(256))
		if r.Intn(8) > 0 {
			row[i] = alphabet[r.Intn(len(alphabet))]
		}
	}
	return string(row)
}

// rows does something with all rows of up to so many of some texts.
func rows(tokens []string, most int, do func(s string)) {
	var more func(s string, left int)
	more = func(s string, left int) {
		do(s)
		if left > 0 {
			for _, token := range tokens {
				more(s+token, left-1)
			}
		}
	}
	more("", most)
}

// texts is all texts of up to so many bytes of an alphabet.
func texts(alphabet string, most int) []string {
	var all []string
	rows(strings.Split(alphabet, ""), most, func(s string) { all = append(all, s) })
	return all
}
