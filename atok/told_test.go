package atok_test

import (
	"math/big"
	"math/rand"
	"regexp"
	"slices"
	"testing"

	"windlass/api"
	"windlass/atok"
)

// The chapter's words as expressions of the library's: what is tried first is told first, and so the longest operators stand ahead.
var (
	blanksTold = regexp.MustCompile(`\A[\x20\x09\x0a]*`)
	digitsTold = regexp.MustCompile(`\A[0-9][0-9A-Za-z_]*`)
	nameTold   = regexp.MustCompile(`\A[A-Za-z_][0-9A-Za-z_]*`)
	opTold     = regexp.MustCompile(`\A(?:<<=|>>=|&&|\|\||[=!<>+\-*/%&^|]=|<<|>>|[-+*/%<>&^|!~?:=()])`)
	hexTold    = regexp.MustCompile(`\A0[xX]([0-9a-fA-F]+)\z`)
	octTold    = regexp.MustCompile(`\A(0[0-7]*)\z`)
	decTold    = regexp.MustCompile(`\A([1-9][0-9]*)\z`)
)

// toldNumber is a number's value by numbers of any size.
func toldNumber(s string) (int64, bool) {
	for base, form := range map[int]*regexp.Regexp{16: hexTold, 8: octTold, 10: decTold} {
		if m := form.FindStringSubmatch(s); m != nil {
			n, ok := new(big.Int).SetString(m[1], base)
			if ok && n.Sign() >= 0 && n.BitLen() < 64 {
				return n.Int64(), true
			}
		}
	}
	return 0, false
}

// toldTokens is the chapter's P12.2, told another way.
func toldTokens(s string) ([]api.Atok, int, api.Errno) {
	var row []api.Atok
	for at := 0; ; {
		at += len(blanksTold.FindString(s[at:]))
		if at == len(s) {
			return append(row, end(at)), 0, api.OK
		}
		d, n, o := digitsTold.FindString(s[at:]), nameTold.FindString(s[at:]), opTold.FindString(s[at:])
		v, ok := toldNumber(d)
		switch {
		case d != "" && ok:
			row = append(row, num(v, at))
		case d != "":
			return nil, at, api.ErrNumber
		case n != "":
			row = append(row, name(n, at))
		case o != "":
			row = append(row, op(o, at))
		default:
			return nil, at, api.ErrSyntax
		}
		at += len(d) + len(n) + len(o)
	}
}

// asTold asks that a text's tokens are what the other way tells, and tells them.
func asTold(t *testing.T, s string) ([]api.Atok, api.Errno) {
	t.Helper()
	row, place, err := atok.Tokens(s)
	wantRow, wantPlace, wantErr := toldTokens(s)
	if place != wantPlace || err != wantErr || !slices.Equal(row, wantRow) {
		t.Fatalf("Tokens(%s) = %s, %d, %v, not %s, %d, %v", short(s), listed(row), place, err, listed(wantRow), wantPlace, wantErr)
	}
	n, ok := atok.Constant(s)
	if wantN, wantOk := toldNumber(s); n != wantN || ok != wantOk {
		t.Fatalf("Constant(%s) = %d, %v, not %d, %v", short(s), n, ok, wantN, wantOk)
	}
	return row, err
}

// P12.1, P12.2: all texts of up to five bytes of an alphabet in which each kind of byte is.
func TestAllShortTexts(t *testing.T) {
	t.Parallel()
	met := map[api.Errno]int{}
	rows := []string{""}
	for range 6 {
		var next []string
		for _, s := range rows {
			_, err := asTold(t, s)
			met[err]++
			for _, c := range "0189xXa_g<=&!@ \n" {
				next = append(next, s+string(c))
			}
		}
		rows = next
	}
	if met[api.OK] == 0 || met[api.ErrNumber] == 0 || met[api.ErrSyntax] == 0 {
		t.Errorf("errors met: %v", met)
	}
}

// P12.1, P12.2: all texts of two bytes, and of any byte among tokens.
func TestAllPairsOfBytes(t *testing.T) {
	t.Parallel()
	for a := range 256 {
		for b := range 256 {
			asTold(t, string([]byte{byte(a), byte(b)}))
		}
		c := string([]byte{byte(a)})
		for _, s := range []string{"0" + c + "1", "a" + c + "1", "<" + c + "=", " " + c + " ", "1 " + c + " 2", "0x" + c + "f", "&" + c + "&", c + "09"} {
			asTold(t, s)
		}
	}
}

// wildPiece is a piece of an expression, often one that is a token.
func wildPiece(r *rand.Rand) string {
	pieces := []string{
		"0", "1", "7", "42", "08", "010", "0x1F", "0XfF", "0x", "0xg", "1a", "1_", "0_", "00", most, mostOct, mostHex, tooMuch, tooMuchOct, tooMuchHex, "0" + most,
		"a", "x", "_", "_1", "Ab9", "x0", "name", " ", " ", "\t", "\n", "  ", "@", "#", "$", ".", "\"", "'", "\\", ",", ";", "\r", "\x0b", "\x00", "\x7f", "\x80", "\xff", "é",
	}
	switch r.Intn(5) {
	case 0:
		return ops[r.Intn(len(ops))]
	case 1:
		return pieces[r.Intn(len(pieces))]
	case 2:
		return " "
	case 3: // those at which nothing can be wrong, so that texts go on
		return pieces[:4][r.Intn(4)]
	}
	return ops[r.Intn(len(ops))] + " " + pieces[21:32][r.Intn(11)]
}

// P12.1, P12.2: texts by seeds, of pieces that are tokens, and that are none.
func TestBySeeds(t *testing.T) {
	t.Parallel()
	met := map[api.Errno]int{}
	for seed := range int64(40000) {
		r := rand.New(rand.NewSource(seed))
		s := ""
		for range r.Intn(30) {
			s += wildPiece(r)
		}
		_, err := asTold(t, s)
		met[err]++
	}
	if met[api.OK] < 1000 || met[api.ErrNumber] < 1000 || met[api.ErrSyntax] < 1000 {
		t.Errorf("errors met: %v", met)
	}
}

// P12.1, P12.2, wrong inputs: texts of any bytes by seeds, those that tokens have often among them.
func TestWildBytes(t *testing.T) {
	t.Parallel()
	often := "0123456789abcdefxX_ \t\n<>=&|!+-*/%^~?:()"
	for seed := range int64(40000) {
		r := rand.New(rand.NewSource(seed))
		row := make([]byte, r.Intn(24))
		for i := range row {
			row[i] = often[r.Intn(len(often))]
			if r.Intn(16) == 0 {
				row[i] = byte(r.Intn(256))
			}
		}
		asTold(t, string(row))
	}
}

// P12.1: digits of all kinds by seeds, about as long as the greatest value's, with noughts ahead or none.
func TestNumbersBySeeds(t *testing.T) {
	t.Parallel()
	fits := 0
	for seed := range int64(40000) {
		r := rand.New(rand.NewSource(seed))
		ahead := []string{"", "0", "0x", "0X", "00", "0x0", "000"}[r.Intn(7)]
		digits := []string{"01234567", "0123456789", "0123456789abcdef", "0123456789ABCDEFabcdef", "01", "7", "9", "f", "0x_1"}[r.Intn(9)]
		s := []byte(ahead)
		for range 1 + r.Intn(23) {
			s = append(s, digits[r.Intn(len(digits))])
		}
		if _, err := asTold(t, string(s)); err == api.OK {
			fits++
		}
	}
	if fits < 5000 {
		t.Errorf("%d numbers among them", fits)
	}
}
