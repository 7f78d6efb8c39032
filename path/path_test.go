package path_test

import (
	"slices"
	"strings"
	"testing"

	stdpath "path"

	"windlass/api"
	"windlass/path"
)

// texts hands out all texts of at most n of these bytes, the empty one first.
func texts(bytes string, n int) func(yield func(string) bool) {
	return func(yield func(string) bool) {
		line := []string{""}
		for len(line) > 0 {
			s := line[0]
			line = line[1:]
			if !yield(s) {
				return
			}
			for i := 0; len(s) < n && i < len(bytes); i++ {
				line = append(line, s+bytes[i:i+1])
			}
		}
	}
}

// short is the texts that the promises are held against one by one.
func short() func(yield func(string) bool) { return texts("/.a", 7) }

// pairs hands out pairs of texts, one of which is short.
func pairs(f func(a, b string)) {
	for a := range texts("/.a", 4) {
		for b := range texts("/.b", 5) {
			f(a, b)
			f(b, a)
		}
	}
}

// parts is a path's names, told byte by byte: what the promises are held against.
func parts(p string) []string {
	var l []string
	begin := 0
	for i := 0; i <= len(p); i++ {
		if i < len(p) && p[i] != '/' {
			continue
		}
		if i > begin {
			l = append(l, p[begin:i])
		}
		begin = i + 1
	}
	return l
}

// rooted tells whether a path begins with a slash.
func rooted(p string) bool { return p != "" && p[0] == '/' }

// One name just short enough for a directory, and one a byte too long.
var (
	name64 = strings.Repeat("n", 64)
	name65 = strings.Repeat("n", 65)
)

// wild is paths with bytes that no script writes by chance.
func wild() []string {
	return []string{
		"a\x00b", "\x00", "/\x00/", "\xff\xfe", "/\xff//\xfe/", "é/ü", "a b/ c", "a\nb/\n", "\\/\\", "*", "~/x", "a:b", "C:\\x",
		"/" + name64, name65 + "/", name65 + "/" + name64, "/" + strings.Repeat("x", 5000) + "/y",
	}
}

// long is paths far above what a tree takes.
func long() []string {
	many := func(s string) string { return strings.Repeat(s, 20000) }
	return []string{many("/"), many("a/"), many("../"), many("a/../"), many("a/") + many("../") + "b", "/" + many("a")}
}

// P2.1: Parts, of paths by hand.
func TestParts(t *testing.T) {
	for _, x := range []struct {
		p    string
		want []string
	}{
		{"", nil}, {"/", nil}, {"//", nil}, {"/////", nil},
		{"a", []string{"a"}}, {"/a", []string{"a"}}, {"a/", []string{"a"}}, {"//a//", []string{"a"}},
		{"a/b", []string{"a", "b"}}, {"/a/b/", []string{"a", "b"}}, {"a///b", []string{"a", "b"}}, {"a/a", []string{"a", "a"}},
		{".", []string{"."}}, {"..", []string{".."}}, {"/.", []string{"."}}, {"/..", []string{".."}},
		{"./../a/.", []string{".", "..", "a", "."}}, {"a/b/c/d", []string{"a", "b", "c", "d"}},
		{"...", []string{"..."}}, {".a/b.", []string{".a", "b."}}, {" / ", []string{" ", " "}},
		{"a\x00b/\x00", []string{"a\x00b", "\x00"}}, {"\xff/\xc3", []string{"\xff", "\xc3"}}, {"a\\b", []string{"a\\b"}},
		{name65 + "/" + name64, []string{name65, name64}},
	} {
		if got := path.Parts(x.p); !slices.Equal(got, x.want) {
			t.Errorf("Parts(%.80q) = %.200q", x.p, got)
		}
	}
	for _, p := range []string{"", "/", "///"} {
		if len(path.Parts(p)) != 0 {
			t.Errorf("Parts(%q) is not empty", p)
		}
	}
}

// P2.1: Parts, of all short paths and of wild ones: the names between the slashes, none of them empty.
func TestPartsAll(t *testing.T) {
	for p := range short() {
		if got := path.Parts(p); !slices.Equal(got, parts(p)) {
			t.Errorf("Parts(%q) = %q", p, got)
		}
	}
	for _, p := range slices.Concat(wild(), long()) {
		want := slices.DeleteFunc(strings.Split(p, "/"), func(s string) bool { return s == "" })
		if got := path.Parts(p); !slices.Equal(got, want) {
			t.Errorf("Parts(%.80q) = %.200q", p, got)
		}
	}
}

// P2.1: a list that was told is the caller's: what is done to it changes no later answer.
func TestPartsNew(t *testing.T) {
	p := "a/b"
	one := path.Parts(p)
	one[0], one[1] = "x", "y"
	if got := path.Parts(p); !slices.Equal(got, []string{"a", "b"}) {
		t.Errorf("Parts(%q) = %q behind a change of an earlier answer", p, got)
	}
}

// P2.1: Name, of texts that can stand in a directory, and of such as can't.
func TestName(t *testing.T) {
	for _, s := range []string{
		"a", "0", "...", "....", ".a", "..a", "a.", "a..", "a.b", ". ", " .", " ", "-", "--", "*", "~", "\\", "\n", "\t", "\x01", "\x7f",
		"\xff", "\xc3", "é", "a b", "a:b", ".\xff", "..\xff", name64, name64[:63], strings.Repeat("é", 32), strings.Repeat(".", 64), strings.Repeat(" ", 64),
	} {
		if !path.Name(s) {
			t.Errorf("Name(%q) = false", s)
		}
	}
	for _, s := range []string{
		"", ".", "..", "/", "//", "a/", "/a", "a/b", "./", "../", "/.", "/..", "\x00", "a\x00", "\x00a", "a\x00b", ".\x00", "\xff/", "\xff\x00",
		name65, strings.Repeat("n", 66), strings.Repeat("n", 128), strings.Repeat("n", 1<<16+1), strings.Repeat("é", 33), strings.Repeat("\xff", 65), strings.Repeat(".", 65),
		name64[:63] + "/", name64[:63] + "\x00", "/" + name64[:63], "\x00" + name64[:63], name64 + "/", name64 + "\x00",
	} {
		if path.Name(s) {
			t.Errorf("Name(%.80q) = true", s)
		}
	}
}

// P2.1: Name, by each byte alone and at each place of a longer text; by each length.
func TestNameBytes(t *testing.T) {
	for c := 0; c < 256; c++ {
		s, fits := string([]byte{byte(c)}), c != '/' && c != 0
		if got := path.Name(s); got != (fits && c != '.') {
			t.Errorf("Name(%q) = %v", s, got)
		}
		if got := path.Name("." + s); got != (fits && c != '.') {
			t.Errorf("Name(%q) = %v", "."+s, got)
		}
		for i := 0; i < 64; i++ {
			if got := path.Name(name64[:i] + s + name64[i+1:]); got != fits {
				t.Errorf("Name of 64 bytes, %q at %d = %v", s, i, got)
			}
		}
	}
	for n := 0; n < 200; n++ {
		if got := path.Name(strings.Repeat("n", n)); got != (1 <= n && n <= api.MaxName) {
			t.Errorf("Name of %d bytes = %v", n, got)
		}
	}
}

// P2.2: Base and Dir, of paths by hand.
func TestBaseDir(t *testing.T) {
	for _, x := range []struct{ p, base, dir string }{
		{"", "", "."}, {"/", "/", "/"}, {"//", "/", "/"}, {"/////", "/", "/"},
		{"a", "a", "."}, {"a/", "a", "."}, {"a//", "a", "."}, {"/a", "a", "/"}, {"//a", "a", "/"}, {"/a/", "a", "/"},
		{"a/b", "b", "a"}, {"a/b/", "b", "a"}, {"a//b", "b", "a"}, {"/a/b", "b", "/a"}, {"//a//b//", "b", "/a"},
		{"a/b/c", "c", "a/b"}, {"a///b//c/", "c", "a/b"}, {"/a/b/c", "c", "/a/b"},
		{".", ".", "."}, {"..", "..", "."}, {"./", ".", "."}, {"../", "..", "."}, {"/.", ".", "/"}, {"/..", "..", "/"},
		{"./a", "a", "."}, {"../a", "a", ".."}, {"a/.", ".", "a"}, {"a/..", "..", "a"}, {"a/./b", "b", "a/."}, {"a/../b", "b", "a/.."}, {"../..", "..", ".."},
		{"...", "...", "."}, {" ", " ", "."}, {"a\x00b", "a\x00b", "."}, {"\x00/\x00", "\x00", "\x00"}, {"\xff/\xfe", "\xfe", "\xff"},
		{name65 + "/" + name64, name64, name65}, {"/" + name65, name65, "/"},
	} {
		if got := path.Base(x.p); got != x.base {
			t.Errorf("Base(%.80q) = %.80q", x.p, got)
		}
		if got := path.Dir(x.p); got != x.dir {
			t.Errorf("Dir(%.80q) = %.80q", x.p, got)
		}
	}
}

// wantBase and wantDir tell Base and Dir by a path's names.
func wantBase(p string) string {
	if l := parts(p); len(l) > 0 {
		return l[len(l)-1]
	}
	if rooted(p) {
		return "/"
	}
	return ""
}

func wantDir(p string) string {
	l := parts(p)
	if len(l) > 0 {
		l = l[:len(l)-1]
	}
	switch {
	case rooted(p):
		return "/" + strings.Join(l, "/")
	case len(l) == 0:
		return "."
	}
	return strings.Join(l, "/")
}

// P2.2: Base and Dir, of all short paths and of wild ones.
func TestBaseDirAll(t *testing.T) {
	hold := func(p string) {
		if got := path.Base(p); got != wantBase(p) {
			t.Errorf("Base(%.80q) = %.80q", p, got)
		}
		if got := path.Dir(p); got != wantDir(p) {
			t.Errorf("Dir(%.80q) = %.80q", p, got)
		}
	}
	for p := range short() {
		hold(p)
	}
	for _, p := range slices.Concat(wild(), long()) {
		hold(p)
	}
}

// P2.3: Join, of paths by hand.
func TestJoin(t *testing.T) {
	for _, x := range []struct{ a, b, want string }{
		{"", "", ""}, {"a", "", "a"}, {"", "a", "a"}, {"/", "", "/"}, {"", "/", "/"}, {"a/", "", "a/"}, {"", "a/", "a/"}, {"//", "", "//"}, {".", "", "."}, {"", "..", ".."},
		{"a", "b", "a/b"}, {"a/", "b", "a/b"}, {"a//", "b", "a//b"}, {"/", "b", "/b"}, {"//", "b", "//b"}, {"/a", "b", "/a/b"}, {"/a/", "b/", "/a/b/"},
		{"a", "/", "/"}, {"a", "/b", "/b"}, {"/a", "/b", "/b"}, {"a/", "/b", "/b"}, {"a", "//b//", "//b//"}, {"/", "/", "/"}, {"/", "//", "//"},
		{"a", "..", "a/.."}, {"a", ".", "a/."}, {".", ".", "./."}, {"..", "..", "../.."}, {"a//b", "c//d", "a//b/c//d"}, {"a", "b/", "a/b/"},
		{"\x00", "\x00", "\x00/\x00"}, {"\xff", "\xfe", "\xff/\xfe"}, {"a", " ", "a/ "}, {" ", "/", "/"}, {name65, name64, name65 + "/" + name64},
	} {
		if got := path.Join(x.a, x.b); got != x.want {
			t.Errorf("Join(%.80q, %.80q) = %.200q", x.a, x.b, got)
		}
	}
}

// P2.3: Join, of pairs of short paths.
func TestJoinAll(t *testing.T) {
	pairs(func(a, b string) {
		want := a + "/" + b
		if rooted(b) || a == "" {
			want = b
		} else if b == "" {
			want = a
		} else if a[len(a)-1] == '/' {
			want = a + b
		}
		if got := path.Join(a, b); got != want {
			t.Errorf("Join(%q, %q) = %q", a, b, got)
		}
	})
}

// P2.4: Fold, of paths by hand.
func TestFold(t *testing.T) {
	for _, x := range []struct{ cwd, p, want string }{
		{"/a/b", "../c/./d", "/a/c/d"}, {"/", "..", "/"}, {"/", ".", "/"}, {"/", "", "/"}, {"", "", "/"}, {"", "a", "/a"}, {"", "..", "/"}, {"", ".", "/"},
		{"/a", "", "/a"}, {"/a", ".", "/a"}, {"/a", "./", "/a"}, {"/a", "..", "/"}, {"/a", "../", "/"}, {"/a", "../..", "/"}, {"/a", "../../b", "/b"},
		{"/a", "/b", "/b"}, {"/a", "/", "/"}, {"/a", "/..", "/"}, {"/a", "/.", "/"}, {"/a", "//b//c//", "/b/c"}, {"/a", "/../b", "/b"}, {"/a", "///", "/"},
		{"/a/b/c", "../../../../../d", "/d"}, {"/a/b/c", "../../..", "/"}, {"/a/b/c", "../..", "/a"}, {"/", "../../..", "/"}, {"/", "a/../../b", "/b"}, {"/", "../a/..", "/"},
		{"/", "a/b/../c", "/a/c"}, {"/", "a/./b/.", "/a/b"}, {"/", "a/../b/../c", "/c"}, {"/", "a/b/../..", "/"}, {"/", "./a", "/a"},
		{"a", "b", "/a/b"}, {"a/", "b/", "/a/b"}, {"..", "b", "/b"}, {"a/..", "b", "/b"}, {"../a", "../b", "/b"}, {"//a//b//", "c", "/a/b/c"}, {"/a/./b/..", "c", "/a/c"}, {"./.", "", "/"}, {"a/../..", "", "/"},
		{"/", "...", "/..."}, {"/", "a/...", "/a/..."}, {"/", "..a", "/..a"}, {"/", "a/..b", "/a/..b"}, {"/", ".a", "/.a"}, {"/", "a.", "/a."}, {"/", "a/b..", "/a/b.."}, {"/a", ". .", "/a/. ."},
		{"/", "a\x00", "/a\x00"}, {"/", "..\x00", "/..\x00"}, {"/\xff", "\xfe", "/\xff/\xfe"}, {"/\xff", "..", "/"}, {"/", name65, "/" + name65}, {"/" + name65, "../" + name64, "/" + name64},
	} {
		if got := path.Fold(x.cwd, x.p); got != x.want {
			t.Errorf("Fold(%.80q, %.80q) = %.200q", x.cwd, x.p, got)
		}
	}
}

// wantFold is Fold by the library's way to clean a path from the root.
func wantFold(cwd, p string) string {
	if rooted(p) {
		return stdpath.Clean(p)
	}
	return stdpath.Clean("/" + cwd + "/" + p)
}

// P2.4: Fold, of pairs of short paths and of wild ones.
func TestFoldAll(t *testing.T) {
	hold := func(cwd, p string) {
		if got := path.Fold(cwd, p); got != wantFold(cwd, p) {
			t.Errorf("Fold(%.80q, %.80q) = %.80q", cwd, p, got)
		}
	}
	pairs(hold)
	for _, p := range slices.Concat(wild(), long()) {
		hold("", p)
		hold(p, "")
		hold("/a/b", p)
		hold(p, "../../c")
		hold(p, p)
	}
}

// P2.5: Fold begins with a slash, has no empty name, and neither . nor ..; Fold of it, wherever, is it.
func TestFoldOfFold(t *testing.T) {
	hold := func(cwd, p string) {
		f := path.Fold(cwd, p)
		if !rooted(f) {
			t.Fatalf("Fold(%.80q, %.80q) = %.80q: no slash ahead", cwd, p, f)
		}
		if f != "/" {
			for _, name := range strings.Split(f[1:], "/") {
				if name == "" || name == "." || name == ".." {
					t.Fatalf("Fold(%.80q, %.80q) = %.80q: a name %q", cwd, p, f, name)
				}
			}
		}
		for _, where := range []string{"", "/", "/x/y", "x", "..", cwd, p, f} {
			if got := path.Fold(where, f); got != f {
				t.Fatalf("Fold(%.80q, %.80q) = %.80q", where, f, got)
			}
		}
	}
	pairs(hold)
	for _, p := range slices.Concat(wild(), long()) {
		hold("", p)
		hold(p, "../x")
		hold("/a", p)
	}
}

// P2.6: Parts of Join of two, the second of which does not begin with a slash, are those of the first and of the second.
func TestPartsOfJoin(t *testing.T) {
	hold := func(a, b string) {
		if rooted(b) {
			return
		}
		want := append(path.Parts(a), path.Parts(b)...)
		if got := path.Parts(path.Join(a, b)); !slices.Equal(got, want) {
			t.Errorf("Parts(Join(%.80q, %.80q)) = %.200q", a, b, got)
		}
	}
	pairs(hold)
	for _, a := range wild() {
		for _, b := range wild() {
			hold(a, b)
		}
	}
}
