package pipe_test

import (
	"testing"

	"windlass/api"
	"windlass/pipe"
)

// P8.2: which answer is told, by all choices of what may be so of a pipe and an n.
func TestFirstOfRead(t *testing.T) {
	for _, below := range []bool{false, true} {
		for _, empty := range []bool{false, true} {
			for _, atEnd := range []bool{false, true} {
				p, n, want, text := of("ab", 2), 1, api.OK, "a"
				if atEnd {
					p.Writers = 0
				}
				if empty {
					p.Data, want, text = "", api.ErrAgain, ""
				}
				if empty && atEnd {
					want = api.OK
				}
				if below {
					n, want, text = 0, api.ErrInval, ""
				}
				holdRead(t, p, n, text, p.Data[len(text):], want)
			}
		}
	}
}

// P8.3: which answer is told, by all choices of what may be so of a pipe and an s: no Readers first, then an empty s, then a full pipe.
func TestFirstOfWrite(t *testing.T) {
	for _, unread := range []bool{false, true} {
		for _, empty := range []bool{false, true} {
			for _, full := range []bool{false, true} {
				p, s, n, want := of("ab", 3), "c", 1, api.OK
				if full {
					p.Cap, n, want = 2, 0, api.ErrAgain
				}
				if empty {
					s, n, want = "", 0, api.OK
				}
				if unread {
					p.Readers, n, want = 0, 0, api.ErrPipe
				}
				holdWrite(t, p, s, n, want)
			}
		}
	}
}

// P8.2, P8.3: of all small pipes the chapter, told by what is in a row of bytes.
func TestSmallPipes(t *testing.T) {
	for size := 1; size <= 4; size++ {
		for length := range size + 1 {
			for _, readers := range []int{0, 1, 2, 999, 1000} {
				for _, writers := range []int{0, 1, 2, 999, 1000} {
					p := api.Pipe{Data: "\xff\x00a\x80"[:length], Readers: readers, Writers: writers, Cap: size}
					for n := -2; n < 7; n++ {
						b := rowOf(p)
						text, err := b.read(n)
						holdRead(t, p, n, text, string(b.row), err)
					}
					for n := range 7 {
						b := rowOf(p)
						put, err := b.write("\x00b\xfecd\x00"[:n])
						holdWrite(t, p, "\x00b\xfecd\x00"[:n], put, err)
						holdSame(t, "a row of bytes", with(p, string(b.row)), with(p, p.Data+"\x00b\xfecd\x00"[:put]))
					}
				}
			}
		}
	}
}

// P8.2, P8.3: Read asks nothing of Readers and Cap, Write nothing of Writers.
func TestNotAsked(t *testing.T) {
	for count := range maxEnds + 1 {
		_, text, err := pipe.Read(ends(of("abc", 3), count, 1), 2)
		if text != "ab" || err != api.OK {
			t.Fatalf("Read with %d readers = %q, %v", count, text, err)
		}
		_, n, err := pipe.Write(ends(of("abc", 5), 1, count), "def")
		if n != 2 || err != api.OK {
			t.Fatalf("Write with %d writers = %d, %v", count, n, err)
		}
	}
}
