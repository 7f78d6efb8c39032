package atok_test

import (
	"slices"
	"strconv"
	"strings"
	"testing"

	"windlass/api"
	"windlass/atok"
)

// ops are the operators as the chapter lists them.
var ops = strings.Fields("<<= >>= && || == != <= >= << >> += -= *= /= %= &= ^= |= + - * / % < > & ^ | ! ~ ? : = ( )")

// The greatest value that a number may have, in its three kinds, and the one behind it.
const (
	most       = "9223372036854775807"
	mostOct    = "0777777777777777777777"
	mostHex    = "0x7fffffffffffffff"
	tooMuch    = "9223372036854775808"
	tooMuchOct = "01000000000000000000000"
	tooMuchHex = "0x8000000000000000"
)

// num, name, op and end are the tokens of each kind at a place, all of their fields.
func num(n int64, at int) api.Atok   { return api.Atok{Kind: api.AtNum, Num: n, Text: "", At: at} }
func name(s string, at int) api.Atok { return api.Atok{Kind: api.AtName, Num: 0, Text: s, At: at} }
func op(s string, at int) api.Atok   { return api.Atok{Kind: api.AtOp, Num: 0, Text: s, At: at} }
func end(at int) api.Atok            { return api.Atok{Kind: api.AtEnd, Num: 0, Text: "", At: at} }

// holds asks that a text has just these tokens, and no place of an error.
func holds(t *testing.T, s string, want ...api.Atok) {
	t.Helper()
	row, place, err := atok.Tokens(s)
	if err != api.OK || place != 0 || !slices.Equal(row, want) {
		t.Errorf("Tokens(%s) = %s, %d, %v, not %s", short(s), listed(row), place, err, listed(want))
	}
}

// fails asks that a text has this error at this place, and that no token is told.
func fails(t *testing.T, s string, place int, err api.Errno) {
	t.Helper()
	row, p, e := atok.Tokens(s)
	if e != err || p != place || len(row) != 0 {
		t.Errorf("Tokens(%s) = %s, %d, %v, not none, %d, %v", short(s), listed(row), p, e, place, err)
	}
}

// listed is a row for a test's message.
func listed(row []api.Atok) string {
	var texts []string
	for i, x := range row {
		if i == 20 {
			texts = append(texts, "and so on")
			break
		}
		texts = append(texts, strconv.Itoa(x.Kind)+" "+strconv.FormatInt(x.Num, 10)+" "+short(x.Text)+" at "+strconv.Itoa(x.At))
	}
	return "[" + strings.Join(texts, ", ") + "]"
}

// short is a text for a test's message.
func short(s string) string {
	if len(s) > 80 {
		return strconv.Quote(s[:60]) + " and so on"
	}
	return strconv.Quote(s)
}
