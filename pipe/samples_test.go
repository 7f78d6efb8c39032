package pipe_test

import (
	"math"
	"math/rand"
	"strconv"
	"testing"

	"windlass/api"
	"windlass/pipe"
)

// maxEnds is how many descriptors an end of a fit pipe may have, maxCap how many bytes may wait in one.
const (
	maxEnds = 1000
	maxCap  = 65536
)

// of is a pipe with such bytes in it, of such a Cap, with two readers and three writers.
func of(data string, size int) api.Pipe {
	return api.Pipe{Data: data, Readers: 2, Writers: 3, Cap: size}
}

// ends is a pipe with so many readers and writers.
func ends(p api.Pipe, readers, writers int) api.Pipe {
	p.Readers, p.Writers = readers, writers
	return p
}

// with is a pipe with other bytes in it.
func with(p api.Pipe, data string) api.Pipe {
	p.Data = data
	return p
}

// told is a pipe in words: of its bytes how many there are, and the first ones.
func told(p api.Pipe) string {
	return strconv.Itoa(len(p.Data)) + " bytes " + strconv.Quote(p.Data[:min(len(p.Data), 40)]) + " of " + strconv.Itoa(p.Cap) +
		", readers " + strconv.Itoa(p.Readers) + ", writers " + strconv.Itoa(p.Writers)
}

func holdFit(t *testing.T, what string, p api.Pipe) {
	t.Helper()
	if !pipe.Fit(p) {
		t.Errorf("%s: not fit: %s", what, told(p))
	}
}

// holdSame wants a pipe to be just so.
func holdSame(t *testing.T, what string, got, want api.Pipe) {
	t.Helper()
	if got != want {
		t.Errorf("%s: the pipe is %s, not %s", what, told(got), told(want))
	}
}

// holdRead wants Read of a fit pipe to take such bytes out of it and to leave such others, all else being what it was.
func holdRead(t *testing.T, p api.Pipe, n int, want, left string, err api.Errno) {
	t.Helper()
	was := p
	made, got, is := pipe.Read(p, n)
	what := "Read of " + strconv.Itoa(n) + " of " + told(was)
	if got != want || is != err {
		t.Errorf("%s = %d bytes %.40q, %v, not %d bytes %.40q, %v", what, len(got), got, is, len(want), want, err)
	}
	holdSame(t, what, made, with(was, left))
	holdSame(t, "what Read was given", p, was)
	holdFit(t, what, made)
}

// holdNotRead wants Read to tell an error, and the pipe as it was.
func holdNotRead(t *testing.T, p api.Pipe, n int, err api.Errno) {
	t.Helper()
	holdRead(t, p, n, "", p.Data, err)
}

// holdWrite wants Write to a fit pipe to put so many of a text's first bytes behind those in it, all else being what it was.
func holdWrite(t *testing.T, p api.Pipe, s string, want int, err api.Errno) {
	t.Helper()
	was := p
	made, got, is := pipe.Write(p, s)
	what := "Write of " + strconv.Itoa(len(s)) + " bytes to " + told(was)
	if got != want || is != err {
		t.Errorf("%s = %d, %v, not %d, %v", what, got, is, want, err)
	}
	holdSame(t, what, made, with(was, was.Data+s[:want]))
	holdSame(t, "what Write was given", p, was)
	holdFit(t, what, made)
}

// extremes is numbers below 0, and above all that a pipe can have.
func extremes() []int {
	return []int{
		-1, -2, -1000, -65536, math.MinInt32, math.MinInt + 1, math.MinInt,
		65538, 131072, math.MaxInt32, math.MaxInt32 + 1, math.MaxInt - 1, math.MaxInt,
	}
}

// wildText is so many bytes of any kind, 0 and those above 127 often among them.
func wildText(r *rand.Rand, length int) string {
	row := make([]byte, length)
	for i := range row {
		row[i] = []byte{0, 255, 128, '\n', 'a', byte(r.Intn(256))}[r.Intn(6)]
	}
	return string(row)
}

// bytesOf is so many bytes, those next to one another being others, 0 and those above 127 among them.
func bytesOf(length int) string {
	row := make([]byte, length)
	for i := range row {
		row[i] = byte(i*7 + i/251)
	}
	return string(row)
}
