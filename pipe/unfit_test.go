package pipe_test

import (
	"math"
	"strings"
	"sync"
	"testing"

	"windlass/api"
	"windlass/pipe"
)

// unfit is pipes that can not be, and some that can.
func unfit() []api.Pipe {
	var all []api.Pipe
	numbers := []int{0, 1, 2, 1000, 1001, -1, math.MinInt, math.MinInt + 1, math.MinInt32, math.MaxInt32, math.MaxInt - 1, math.MaxInt, 65536, 65537}
	for _, data := range []string{"", "a", "\x00\xff\x80", strings.Repeat("x", 70000)} {
		for _, readers := range numbers {
			for _, writers := range []int{0, 1, 1001, -1, math.MinInt, math.MaxInt} {
				for _, size := range numbers {
					all = append(all, api.Pipe{Data: data, Readers: readers, Writers: writers, Cap: size})
				}
			}
		}
	}
	return all
}

// 0.1, 0.5: no call panics, each ends, and none changes what it is given, at pipes that are not fit.
func TestUnfit(t *testing.T) {
	for _, p := range unfit() {
		was := p
		pipe.Fit(p)
		for _, n := range append(extremes(), 0, 1, 2, 3, 65536, 70000) {
			pipe.Read(p, n)
		}
		for _, s := range []string{"", "a", "\x00\xff", "abcdefgh"} {
			pipe.Write(p, s)
		}
		for _, reads := range []bool{false, true} {
			pipe.Close(p, reads)
			pipe.Dup(p, reads)
		}
		holdSame(t, "what was given", p, was)
	}
}

// 0.3: beside an error there is nothing else, but the pipe as it was, at pipes that are not fit neither.
func TestBesideErrors(t *testing.T) {
	for _, p := range unfit() {
		for _, n := range []int{-1, 0, 1, 3} {
			if made, text, err := pipe.Read(p, n); err != api.OK && (made != p || text != "") {
				t.Errorf("Read of %d of %s: %s, %q, %v", n, told(p), told(made), text, err)
			}
		}
		for _, s := range []string{"", "ab"} {
			if made, n, err := pipe.Write(p, s); err != api.OK && (made != p || n != 0) {
				t.Errorf("Write of %q to %s: %s, %d, %v", s, told(p), told(made), n, err)
			}
		}
	}
}

// 0.5: what was told stays what it is, whatever is done with the pipe later; the same call tells the same.
func TestStays(t *testing.T) {
	p := of("\x00abc\xff", 8)
	first, n, _ := pipe.Write(p, "defg")
	second, text, _ := pipe.Read(first, 4)
	third, m, _ := pipe.Write(second, "hijk")
	other, k, _ := pipe.Write(second, "HIJK")
	pipe.Read(third, 100)
	holdSame(t, "the first", first, of("\x00abc\xffdef", 8))
	holdSame(t, "the second", second, of("\xffdef", 8))
	holdSame(t, "the third", third, of("\xffdefhijk", 8))
	holdSame(t, "the other", other, of("\xffdefHIJK", 8))
	if n != 3 || m != 4 || k != 4 || text != "\x00abc" {
		t.Errorf("%d, %d and %d were put, %q was read", n, m, k, text)
	}
	again, l, _ := pipe.Write(p, "defg")
	if again != first || l != n {
		t.Errorf("once more: %s, %d", told(again), l)
	}
}

// 0.5: calls of one pipe at one time know nothing of one another.
func TestAtOneTime(t *testing.T) {
	p := ends(of("abcd", 8), 1, 999)
	var all sync.WaitGroup
	made := make([][4]api.Pipe, 50)
	for i := range made {
		all.Go(func() {
			for range 200 {
				made[i] = [4]api.Pipe{pipe.Close(p, true), pipe.Close(p, false), pipe.Dup(p, true), pipe.Dup(p, false)}
			}
		})
	}
	all.Wait()
	want := [4]api.Pipe{ends(p, 0, 999), ends(p, 1, 998), ends(p, 2, 999), ends(p, 1, 1000)}
	for i := range made {
		if made[i] != want {
			t.Errorf("%v, not %v", made[i], want)
		}
	}
}
