package atok_test

import (
	"math"
	"math/big"
	"math/rand"
	"slices"
	"strconv"
	"strings"
	"sync"
	"testing"

	"windlass/api"
	"windlass/atok"
	"windlass/chars"
)

// fitTokens is a row of tokens' texts by a seed, none wrong.
func fitTokens(r *rand.Rand) []string {
	all := append([]string{"0", "1", "10", "007", "0x1F", "0XfE", most, mostOct, mostHex, "a", "_", "x1", "Name_9", "x0x"}, ops...)
	row := make([]string, r.Intn(30))
	for i := range row {
		row[i] = all[r.Intn(len(all))]
	}
	return row
}

// wildBlanks is at least so many blanks.
func wildBlanks(r *rand.Rand, least int) string {
	s := ""
	for range least + r.Intn(4) {
		s += []string{" ", "\t", "\n"}[r.Intn(3)]
	}
	return s
}

// P12.3: tokens' places rise, and at each of them the token's own bytes stand.
func TestPlacesRise(t *testing.T) {
	t.Parallel()
	for seed := range int64(10000) {
		r := rand.New(rand.NewSource(seed))
		s := ""
		for range r.Intn(30) {
			s += wildPiece(r)
		}
		row, _, err := atok.Tokens(s)
		if err != api.OK {
			continue
		}
		for i, x := range row {
			if i > 0 && x.At <= row[i-1].At {
				t.Fatalf("places of %s in %s do not rise", listed(row), short(s))
			}
			if !strings.HasPrefix(s[x.At:], x.Text) {
				t.Fatalf("%s is not at its place in %s", listed(row[i:i+1]), short(s))
			}
		}
		if last := row[len(row)-1]; last != end(len(s)) || slices.ContainsFunc(row[:len(row)-1], func(x api.Atok) bool { return x.Kind == api.AtEnd }) {
			t.Fatalf("just the last of %s is no end at %d", listed(row), len(s))
		}
	}
}

// P12.3: a text of tokens with blanks between is just these tokens, and any other blanks between change no Kind, Num, Text.
func TestBlanksBetweenChangeNothing(t *testing.T) {
	t.Parallel()
	for seed := range int64(10000) {
		r := rand.New(rand.NewSource(seed))
		texts := fitTokens(r)
		s := wildBlanks(r, 0)
		var want []api.Atok
		for _, x := range texts {
			switch n, ok := toldNumber(x); {
			case ok:
				want = append(want, num(n, len(s)))
			case chars.Name(x):
				want = append(want, name(x, len(s)))
			default:
				want = append(want, op(x, len(s)))
			}
			s += x + wildBlanks(r, 1)
		}
		holds(t, s, append(want, end(len(s)))...)
	}
}

// P12.3: blanks that are put between the tokens of any text, at all places where one begins, change no Kind, Num, Text.
func TestBlanksPutIn(t *testing.T) {
	t.Parallel()
	for seed := range int64(10000) {
		r := rand.New(rand.NewSource(seed))
		s := ""
		for range r.Intn(30) {
			s += wildPiece(r)
		}
		row, _, err := atok.Tokens(s)
		if err != api.OK {
			continue
		}
		wide, from := "", 0
		for _, x := range row {
			wide += s[from:x.At] + wildBlanks(r, 0)
			from = x.At
		}
		other, _, err := atok.Tokens(wide)
		if err != api.OK || !slices.Equal(unplaced(other), unplaced(row)) {
			t.Fatalf("Tokens(%s) = %s, %v, not as of %s: %s", short(wide), listed(other), err, short(s), listed(row))
		}
	}
}

// unplaced is a row with no places.
func unplaced(row []api.Atok) []api.Atok {
	row = slices.Clone(row)
	for i := range row {
		row[i].At = 0
	}
	return row
}

// P12.4: a number's decimal digits are read as it; its other digits, too.
func TestDigitsAreReadAsTheNumber(t *testing.T) {
	t.Parallel()
	numbers := []int64{0, math.MaxInt64, math.MaxInt64 - 1, math.MaxInt32, math.MaxInt32 + 1, math.MaxUint32, math.MaxUint32 + 1}
	for n := range int64(5000) {
		numbers = append(numbers, n)
	}
	for p, ten := 0, int64(1); p < 63; p++ {
		numbers = append(numbers, 1<<p, 1<<p-1, 1<<p+1)
		if p < 19 {
			numbers = append(numbers, ten, ten-1, ten+1)
			ten *= 10
		}
	}
	r := rand.New(rand.NewSource(12))
	for range 20000 {
		numbers = append(numbers, r.Int63()>>r.Intn(63))
	}
	for _, n := range numbers {
		if n < 0 { // ten to the 19th
			continue
		}
		for _, s := range []string{chars.Text(n), "0" + strconv.FormatInt(n, 8), "0x" + strconv.FormatInt(n, 16), "0X" + strings.ToUpper(strconv.FormatInt(n, 16)), "000" + strconv.FormatInt(n, 8), "0x00" + strconv.FormatInt(n, 16)} {
			if got, ok := atok.Constant(s); got != n || !ok {
				t.Fatalf("Constant(%s) = %d, %v, not %d", s, got, ok, n)
			}
			holds(t, s, num(n, 0), end(len(s)))
			holds(t, "-"+s+"+", op("-", 0), num(n, 1), op("+", len(s)+1), end(len(s)+2))
		}
	}
}

// P12.4: the least numbers that are too great, and others, are none in any of their kinds.
func TestDigitsThatAreTooGreat(t *testing.T) {
	t.Parallel()
	r := rand.New(rand.NewSource(4))
	over := new(big.Int).Lsh(big.NewInt(1), 63)
	for i := range 3000 {
		n := new(big.Int).Add(over, big.NewInt(int64(i)))
		if i > 500 {
			n.Lsh(n, uint(r.Intn(300)))
			n.Add(n, big.NewInt(r.Int63()))
		}
		for _, s := range []string{n.Text(10), "0" + n.Text(8), "0x" + n.Text(16), "0X0" + n.Text(16), "00" + n.Text(8)} {
			if got, ok := atok.Constant(s); got != 0 || ok {
				t.Fatalf("Constant(%s) = %d, %v", s, got, ok)
			}
			fails(t, "1+"+s, 2, api.ErrNumber)
		}
	}
}

// 0.5: what one call told is not seen to change by another, nor does a change of it change what a later call tells.
func TestNothingIsShared(t *testing.T) {
	t.Parallel()
	const s = "a<<=0x1F + b"
	first, _, _ := atok.Tokens(s)
	kept := slices.Clone(first)
	second, _, _ := atok.Tokens(s)
	for i := range second {
		second[i] = api.Atok{Kind: 9, Num: 9, Text: "9", At: 9}
	}
	atok.Tokens("other tokens + @")
	if !slices.Equal(first, kept) {
		t.Errorf("%s are now %s", listed(kept), listed(first))
	}
	holds(t, s, kept...)
	a, b := slices.Clone(kept), slices.Clone(kept)
	atok.Same(a, b)
	if !slices.Equal(a, kept) || !slices.Equal(b, kept) {
		t.Errorf("Same changed its rows to %s and %s", listed(a), listed(b))
	}
}

// 0.5: calls that go on at one time tell what each tells alone.
func TestAtOneTime(t *testing.T) {
	t.Parallel()
	var all sync.WaitGroup
	for seed := range int64(16) {
		all.Go(func() {
			r := rand.New(rand.NewSource(seed))
			for range 300 {
				s := ""
				for range r.Intn(30) {
					s += wildPiece(r)
				}
				row, place, err := atok.Tokens(s)
				wantRow, wantPlace, wantErr := toldTokens(s)
				if place != wantPlace || err != wantErr || !slices.Equal(row, wantRow) {
					t.Errorf("Tokens(%s) = %s, %d, %v, not %s", short(s), listed(row), place, err, listed(wantRow))
				}
			}
		})
	}
	all.Wait()
}
