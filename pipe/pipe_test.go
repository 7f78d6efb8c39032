package pipe_test

import (
	"math"
	"strings"
	"testing"

	"windlass/api"
	"windlass/pipe"
)

// P8.1 to P8.3: the chapter's example.
func TestExample(t *testing.T) {
	p, err := pipe.New(4)
	if err != api.OK {
		t.Fatalf("New of 4 = %v", err)
	}
	p, n, err := pipe.Write(p, "abcdef")
	if n != 4 || err != api.OK {
		t.Errorf("Write of abcdef = %d, %v", n, err)
	}
	p, s, err := pipe.Read(p, 3)
	if s != "abc" || err != api.OK {
		t.Errorf("Read of 3 = %q, %v", s, err)
	}
	p, n, err = pipe.Write(p, "ef")
	if n != 2 || err != api.OK {
		t.Errorf("Write of ef = %d, %v", n, err)
	}
	p, s, err = pipe.Read(p, 9)
	if s != "def" || err != api.OK {
		t.Errorf("Read of 9 = %q, %v", s, err)
	}
	holdSame(t, "behind the example", p, api.Pipe{Readers: 1, Writers: 1, Cap: 4})
}

// P8.1: New of each size that may be, and of some that may not.
func TestNew(t *testing.T) {
	for size := 1; size <= maxCap; size++ {
		p, err := pipe.New(size)
		if want := (api.Pipe{Data: "", Readers: 1, Writers: 1, Cap: size}); p != want || err != api.OK {
			t.Fatalf("New of %d = %s, %v", size, told(p), err)
		}
		if !pipe.Fit(p) {
			t.Fatalf("New of %d is not fit", size)
		}
	}
	for _, size := range append(extremes(), 0, 65537) {
		if p, err := pipe.New(size); p != (api.Pipe{}) || err != api.ErrInval {
			t.Errorf("New of %d = %s, %v", size, told(p), err)
		}
	}
}

// P8.1: each bound of a fit pipe, just at it and one past it, the others being far from theirs.
func TestFitBounds(t *testing.T) {
	low := api.Pipe{Data: "", Readers: 0, Writers: 0, Cap: 1}
	high := api.Pipe{Data: bytesOf(maxCap), Readers: 1000, Writers: 1000, Cap: maxCap}
	for _, p := range []api.Pipe{
		low, high, of("", 1), of("a", 1), of("ab", 2), of("a", 2), of("", maxCap), of(bytesOf(maxCap), maxCap), of(bytesOf(maxCap-1), maxCap), of(bytesOf(maxCap-1), maxCap-1),
		ends(of("ab", 4), 0, 3), ends(of("ab", 4), 1, 3), ends(of("ab", 4), 999, 3), ends(of("ab", 4), 1000, 3),
		ends(of("ab", 4), 2, 0), ends(of("ab", 4), 2, 1), ends(of("ab", 4), 2, 999), ends(of("ab", 4), 2, 1000),
		ends(of("ab", 4), 0, 0), ends(of("ab", 4), 0, 1000), ends(of("ab", 4), 1000, 0), ends(of("abcd", 4), 1000, 1000),
	} {
		holdFit(t, "a pipe within its bounds", p)
	}
	for _, p := range []api.Pipe{
		{}, of("", 0), of("a", 0), of("", -1), of("a", -1), of("ab", 1), of("abcde", 4), of("", maxCap+1), of("a", maxCap+1), of(bytesOf(maxCap+1), maxCap+1), of(bytesOf(maxCap+1), maxCap),
		of(bytesOf(maxCap), maxCap-1), of(bytesOf(1<<20), maxCap),
		ends(of("ab", 4), -1, 3), ends(of("ab", 4), 1001, 3), ends(of("ab", 4), 2, -1), ends(of("ab", 4), 2, 1001), ends(of("ab", 4), -1, 1001), ends(of("ab", 4), 1001, 1001), ends(of("ab", 4), -1, -1),
		ends(low, -1, 0), ends(low, 0, -1), ends(high, 1001, 1000), ends(high, 1000, 1001),
	} {
		if pipe.Fit(p) {
			t.Errorf("fit: %s", told(p))
		}
	}
	for _, x := range extremes() {
		for _, p := range []api.Pipe{of("", x), of("ab", x), ends(of("ab", 4), x, 3), ends(of("ab", 4), 2, x), ends(of("ab", 4), x, x), ends(of("ab", x), x, x)} {
			if pipe.Fit(p) {
				t.Errorf("fit: %s", told(p))
			}
		}
	}
}

// P8.1: all bounds by one another: a pipe is fit just if none is left.
func TestFitAll(t *testing.T) {
	counts := map[int]bool{-1: false, 0: true, 1: true, 500: true, 999: true, 1000: true, 1001: false, math.MinInt: false, math.MaxInt: false}
	sizes := map[int]bool{-1: false, 0: false, 1: true, 2: true, 3: true, 65535: true, 65536: true, 65537: false, math.MinInt: false, math.MaxInt: false}
	texts := []string{"", "a", "\x00\xff", "abc", bytesOf(65535), bytesOf(65536), bytesOf(65537)}
	for readers, some := range counts {
		for writers, few := range counts {
			for size, room := range sizes {
				for _, data := range texts {
					p := api.Pipe{Data: data, Readers: readers, Writers: writers, Cap: size}
					if want := some && few && room && len(data) <= size; pipe.Fit(p) != want {
						t.Errorf("Fit is not %v of %s", want, told(p))
					}
				}
			}
		}
	}
}

// P8.2: of a pipe with Data an n of 1, of less than there is, of just what there is, of more, and very large.
func TestRead(t *testing.T) {
	for _, x := range []struct {
		data       string
		n          int
		want, left string
	}{
		{"a", 1, "a", ""}, {"a", 2, "a", ""}, {"a", math.MaxInt, "a", ""},
		{"abcd", 1, "a", "bcd"}, {"abcd", 2, "ab", "cd"}, {"abcd", 3, "abc", "d"}, {"abcd", 4, "abcd", ""}, {"abcd", 5, "abcd", ""}, {"abcd", 6, "abcd", ""},
		{"abcd", math.MaxInt32, "abcd", ""}, {"abcd", math.MaxInt - 1, "abcd", ""}, {"abcd", math.MaxInt, "abcd", ""},
		{"\x00", 1, "\x00", ""}, {"\x00\xff\x80", 1, "\x00", "\xff\x80"}, {"\x00\xff\x80", 2, "\x00\xff", "\x80"}, {"\xff\x00\x00", 1, "\xff", "\x00\x00"}, {"\xff\x80\x00", 9, "\xff\x80\x00", ""},
		// Bytes are told off, not the letters that they may make.
		{"\xc3\xa9\xc3\xa8", 1, "\xc3", "\xa9\xc3\xa8"}, {"\xc3\xa9\xc3\xa8", 3, "\xc3\xa9\xc3", "\xa8"}, {"a\nb\n", 2, "a\n", "b\n"},
	} {
		for _, size := range []int{4, 5, 64, maxCap} {
			// Whoever has its ends, what waits is read.
			for _, p := range []api.Pipe{of(x.data, size), ends(of(x.data, size), 1, 1), ends(of(x.data, size), 1, 0), ends(of(x.data, size), 0, 0), ends(of(x.data, size), 0, 1), ends(of(x.data, size), 1000, 1000)} {
				holdRead(t, p, x.n, x.want, x.left, api.OK)
			}
		}
	}
}

// P8.2: of a pipe as full as one can be.
func TestReadFull(t *testing.T) {
	data := bytesOf(maxCap)
	p := of(data, maxCap)
	for _, n := range []int{1, 2, 255, 256, 32768, 65534, 65535, 65536} {
		holdRead(t, p, n, data[:n], data[n:], api.OK)
	}
	for _, n := range []int{65537, 131072, math.MaxInt32, math.MaxInt} {
		holdRead(t, p, n, data, "", api.OK)
	}
	holdRead(t, of("x", 1), 1, "x", "", api.OK)
	holdRead(t, of("x", 1), 65536, "x", "", api.OK)
}

// P8.2: a pipe with no Data tells its end, if it has no Writers, and else that there is nothing now; its Readers are not asked.
func TestReadNone(t *testing.T) {
	for _, n := range []int{1, 2, 64, 65536, 65537, math.MaxInt32, math.MaxInt} {
		for _, size := range []int{1, 2, 64, maxCap} {
			for _, readers := range []int{0, 1, 2, 999, 1000} {
				holdRead(t, ends(of("", size), readers, 0), n, "", "", api.OK)
				for _, writers := range []int{1, 2, 999, 1000} {
					holdNotRead(t, ends(of("", size), readers, writers), n, api.ErrAgain)
				}
			}
		}
	}
}

// P8.2: an n below 1 is ErrInval, ahead of all that is asked of the pipe, be it at its end, empty, or full.
func TestReadWrong(t *testing.T) {
	for _, n := range []int{0, -1, -2, -3, -64, -65536, math.MinInt32, math.MinInt + 1, math.MinInt} {
		for _, data := range []string{"", "a", "\x00\xff", "abcd", bytesOf(maxCap)} {
			size := max(len(data), 1)
			for _, readers := range []int{0, 1, 1000} {
				for _, writers := range []int{0, 1, 1000} {
					holdNotRead(t, ends(of(data, size), readers, writers), n, api.ErrInval)
					holdNotRead(t, ends(of(data, maxCap), readers, writers), n, api.ErrInval)
				}
			}
		}
	}
}

// P8.3: s that finds room whole, just, and in part; room for one byte.
func TestWrite(t *testing.T) {
	for _, x := range []struct {
		data string
		size int
		s    string
		want int
	}{
		{"", 1, "a", 1}, {"", 1, "ab", 1}, {"", 1, "\x00", 1}, {"", 1, "\xff\x00", 1}, {"", 1, bytesOf(70000), 1},
		{"", 4, "a", 1}, {"", 4, "abc", 3}, {"", 4, "abcd", 4}, {"", 4, "abcde", 4}, {"", 4, "abcdef", 4},
		{"x", 4, "ab", 2}, {"x", 4, "abc", 3}, {"x", 4, "abcd", 3}, {"xyz", 4, "a", 1}, {"xyz", 4, "ab", 1}, {"xyz", 4, bytesOf(70000), 1},
		{"\x00", 4, "\x00\x00", 2}, {"\x00\x80", 5, "\xff\x00\x80\xff", 3}, {"\xff", 2, "\xff\xff", 1},
		{"a", 3, "\xc3\xa9\xc3\xa8", 2}, {"ab", 3, "\xc3\xa9", 1}, {"\n", 3, "\n\n", 2},
		{"ab", 64, "ab", 2}, {"ab", 64, strings.Repeat("y", 62), 62}, {"ab", 64, strings.Repeat("y", 63), 62}, {"ab", 64, strings.Repeat("y", 61), 61},
	} {
		// Whoever writes it, what there is room for is put behind.
		for _, p := range []api.Pipe{of(x.data, x.size), ends(of(x.data, x.size), 1, 1), ends(of(x.data, x.size), 1, 0), ends(of(x.data, x.size), 1000, 0), ends(of(x.data, x.size), 1000, 1000)} {
			holdWrite(t, p, x.s, x.want, api.OK)
		}
	}
}

// P8.3: a Cap of 65536.
func TestWriteMuch(t *testing.T) {
	data := bytesOf(maxCap)
	for _, n := range []int{1, 2, 255, 256, 32768, 65534, 65535, 65536, 65537, 131072, 1 << 20} {
		holdWrite(t, of("", maxCap), bytesOf(n), min(n, maxCap), api.OK)
		for _, room := range []int{1, 2, 255, 32768, 65535} {
			holdWrite(t, of(data[room:], maxCap), bytesOf(n), min(n, room), api.OK)
		}
		holdWrite(t, of(data, maxCap), bytesOf(n), 0, api.ErrAgain)
	}
}

// P8.3: a pipe with no Readers is ErrPipe, whatever is written, and whether there is room or not.
func TestWriteNoReaders(t *testing.T) {
	for _, s := range []string{"", "a", "\x00", "\xff", "abcd", "abcdefgh", bytesOf(70000)} {
		for _, p := range []api.Pipe{of("", 1), of("x", 1), of("", 4), of("xy", 4), of("xyzw", 4), of("", maxCap), of(bytesOf(maxCap), maxCap)} {
			for _, writers := range []int{0, 1, 999, 1000} {
				holdWrite(t, ends(p, 0, writers), s, 0, api.ErrPipe)
			}
		}
	}
}

// P8.3: an empty s is 0 of a pipe that has room, and of one that is full.
func TestWriteNothing(t *testing.T) {
	for _, p := range []api.Pipe{of("", 1), of("x", 1), of("", 4), of("xy", 4), of("xyzw", 4), of("", maxCap), of(bytesOf(maxCap), maxCap)} {
		for _, readers := range []int{1, 2, 999, 1000} {
			for _, writers := range []int{0, 1, 1000} {
				holdWrite(t, ends(p, readers, writers), "", 0, api.OK)
			}
		}
	}
}

// P8.3: a full pipe is ErrAgain of any s that is not empty.
func TestWriteFull(t *testing.T) {
	for _, s := range []string{"a", "\x00", "\xff", "abcd", bytesOf(70000)} {
		for _, data := range []string{"x", "\x00", "xyzw", "\x00\xff\x80", bytesOf(64), bytesOf(maxCap)} {
			for _, readers := range []int{1, 2, 999, 1000} {
				for _, writers := range []int{0, 1, 1000} {
					holdWrite(t, ends(of(data, len(data)), readers, writers), s, 0, api.ErrAgain)
				}
			}
		}
	}
}

// P8.4: Close and Dup of each count of each end, the other one being what it may be; all else stays.
func TestCloseDup(t *testing.T) {
	for _, p := range []api.Pipe{of("", 1), of("x", 1), of("\x00\xff\x80", 4), of("", maxCap), of(bytesOf(maxCap), maxCap)} {
		for n := range maxEnds + 1 {
			for _, other := range []int{0, 1, 2, 999, 1000} {
				holdSame(t, "Close of a reader", pipe.Close(ends(p, n, other), true), ends(p, max(n-1, 0), other))
				holdSame(t, "Close of a writer", pipe.Close(ends(p, other, n), false), ends(p, other, max(n-1, 0)))
				holdSame(t, "Dup of a reader", pipe.Dup(ends(p, n, other), true), ends(p, min(n+1, 1000), other))
				holdSame(t, "Dup of a writer", pipe.Dup(ends(p, other, n), false), ends(p, other, min(n+1, 1000)))
			}
		}
	}
}

// P8.4: some of it, by hand.
func TestCloseDupByHand(t *testing.T) {
	p := of("\x00ab\xff", 9)
	for _, x := range []struct{ n, less, more int }{{0, 0, 1}, {1, 0, 2}, {2, 1, 3}, {999, 998, 1000}, {1000, 999, 1000}} {
		given := ends(p, x.n, 7)
		holdSame(t, "Close of a reader", pipe.Close(given, true), ends(p, x.less, 7))
		holdSame(t, "Dup of a reader", pipe.Dup(given, true), ends(p, x.more, 7))
		holdSame(t, "what was given", given, ends(p, x.n, 7))
		given = ends(p, 5, x.n)
		holdSame(t, "Close of a writer", pipe.Close(given, false), ends(p, 5, x.less))
		holdSame(t, "Dup of a writer", pipe.Dup(given, false), ends(p, 5, x.more))
		holdSame(t, "what was given", given, ends(p, 5, x.n))
	}
}

// P8.2 to P8.4: a pipe whose writers are all closed tells its end behind what waits; one whose readers are all closed takes no more.
func TestLastClosed(t *testing.T) {
	p, _ := pipe.New(4)
	p, _, _ = pipe.Write(p, "ab")
	p = pipe.Dup(p, false)
	p = pipe.Close(p, false)
	holdRead(t, p, 1, "a", "b", api.OK)
	holdNotRead(t, with(p, ""), 1, api.ErrAgain)
	p = pipe.Close(p, false)
	holdRead(t, p, 9, "ab", "", api.OK)
	holdRead(t, with(p, ""), 9, "", "", api.OK)
	holdWrite(t, p, "c", 1, api.OK)
	p = pipe.Close(p, true)
	holdWrite(t, p, "c", 0, api.ErrPipe)
	holdWrite(t, p, "", 0, api.ErrPipe)
	p = pipe.Dup(p, true)
	holdWrite(t, p, "cde", 2, api.OK)
}
