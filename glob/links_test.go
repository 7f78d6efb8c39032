package glob_test

import (
	"slices"
	"strconv"
	"strings"
	"testing"

	"windlass/api"
	"windlass/make"
	"windlass/walk"
)

// linked has links to a directory, to files, to links, to nothing and round.
func linked(t *testing.T) api.Tree {
	return build(t,
		"d/", "d/f", "d/e/", "d/e/g", "x", "empty/",
		"toDir -> d", "toDirSlash -> d/", "toDeep -> /d/e", "toEmpty -> empty", "toFile -> d/f", "toLink -> toDir", "toLinkFile -> toFile", "toNothing -> nothing", "toBelowFile -> x/y", "toItself -> toItself", "toRound -> toBack", "toBack -> toRound",
		"d/up -> ..", "d/gone -> gone", "d/in -> e", "d/self -> self",
	)
}

// P11.1: a last part's links are told wherever they lead.
func TestLinksLast(t *testing.T) {
	s := linked(t)
	hold(t, s, "to*", "toBack", "toBelowFile", "toDeep", "toDir", "toDirSlash", "toEmpty", "toFile", "toItself", "toLink", "toLinkFile", "toNothing", "toRound")
	hold(t, s, "d/*", "d/e", "d/f", "d/gone", "d/in", "d/self", "d/up")
	for _, name := range []string{"e", "f", "gone", "in", "self", "up"} {
		hold(t, s, "[d]/"+name, "d/"+name)
		hold(t, s, "/?/"+name, "/d/"+name)
	}
	hold(t, s, "[d]/gone/x")
	hold(t, s, "[d]/no")
}

// P11.1: a last part's links, where the pattern ends with a slash, are told just if they lead to a directory.
func TestLinksSlash(t *testing.T) {
	s := linked(t)
	hold(t, s, "to*/", "toDeep/", "toDir/", "toDirSlash/", "toEmpty/", "toLink/")
	hold(t, s, "d/*/", "d/e/", "d/in/", "d/up/")
	for _, name := range []string{"e", "in", "up"} {
		hold(t, s, "[d]/"+name+"/", "d/"+name+"/")
	}
	for _, name := range []string{"f", "gone", "self", "no"} {
		hold(t, s, "[d]/"+name+"/")
	}
}

// P11.1: parts that are not the last one stay just where they lead to a directory, through links, too.
func TestLinksAhead(t *testing.T) {
	s := linked(t)
	inD := []string{"e", "f", "gone", "in", "self", "up"}
	for _, name := range []string{"toDir", "toDirSlash", "toLink"} {
		var want []string
		for _, x := range inD {
			want = append(want, name+"/"+x)
		}
		hold(t, s, name+"/*", want...)
		hold(t, s, "["+name[:1]+"]"+name[1:]+"/*", want...)
		hold(t, s, name+"/[f]", name+"/f")
		hold(t, s, "["+name[:1]+"]"+name[1:]+"/f", name+"/f")
		hold(t, s, name+"/*/", name+"/e/", name+"/in/", name+"/up/")
		hold(t, s, name+"/*/g", name+"/e/g", name+"/in/g")
		hold(t, s, name+"/.[.]")
	}
	hold(t, s, "toDeep/*", "toDeep/g")
	hold(t, s, "toDeep/../[f]", "toDeep/../f")
	hold(t, s, "toEmpty/*")
	for _, name := range []string{"toFile", "toLinkFile", "toNothing", "toBelowFile", "toItself", "toRound", "x"} {
		for _, behind := range []string{"/*", "/.", "/..", "/f", "/*/", "/../*"} {
			hold(t, s, name+behind)
			hold(t, s, "["+name[:1]+"]"+name[1:]+behind)
		}
	}
	hold(t, s, "*/g", "toDeep/g")
	hold(t, s, "*/*/g", "d/e/g", "d/in/g", "toDir/e/g", "toDir/in/g", "toDirSlash/e/g", "toDirSlash/in/g", "toLink/e/g", "toLink/in/g")
	hold(t, s, "d/*/x", "d/up/x")
	hold(t, s, "d/up/[x]", "d/up/x")
	hold(t, s, "d/up/*/f", "d/up/d/f", "d/up/toDir/f", "d/up/toDirSlash/f", "d/up/toLink/f")
	holdFrom(t, s, "d", "*/x", "up/x")
	holdFrom(t, s, "d/e", "../*/g", "../e/g", "../in/g")
}

// P11.1, chapter 4: a way may follow eight links, not nine.
func TestManyLinks(t *testing.T) {
	lines := []string{"d/", "d/f", "d/l -> ."}
	for i := range 10 {
		to := "d"
		if i > 0 {
			to = "n" + strconv.Itoa(i-1)
		}
		lines = append(lines, "n"+strconv.Itoa(i)+" -> "+to) // n0 leads on by 1 link, n1 by 2
	}
	s := build(t, lines...)
	hold(t, s, "n[0-9]", "n0", "n1", "n2", "n3", "n4", "n5", "n6", "n7", "n8", "n9")
	hold(t, s, "n[0-9]/", "n0/", "n1/", "n2/", "n3/", "n4/", "n5/", "n6/", "n7/")
	hold(t, s, "n[0-9]/f", "n0/f", "n1/f", "n2/f", "n3/f", "n4/f", "n5/f", "n6/f", "n7/f")
	hold(t, s, "n[0-9]/[f]", "n0/f", "n1/f", "n2/f", "n3/f", "n4/f", "n5/f", "n6/f", "n7/f")
	hold(t, s, "n[5-9]/l", "n5/l", "n6/l", "n7/l")
	hold(t, s, "n[5-9]/[l]", "n5/l", "n6/l", "n7/l")
	hold(t, s, "n[5-9]/l/", "n5/l/", "n6/l/")
	hold(t, s, "n[5-9]/[l]/l/f", "n5/l/l/f")
	hold(t, s, "d/"+strings.Repeat("[l]/", 8)+"*", "d/"+strings.Repeat("l/", 8)+"f", "d/"+strings.Repeat("l/", 8)+"l")
	hold(t, s, "d/"+strings.Repeat("l/", 8)+"[l]", "d/"+strings.Repeat("l/", 9)[:17])
	hold(t, s, "[d]/"+strings.Repeat("l/", 8)+"l", "d/"+strings.Repeat("l/", 9)[:17])
	hold(t, s, "d/"+strings.Repeat("[l]/", 9))
	hold(t, s, "d/"+strings.Repeat("l/", 9)+"*")
	hold(t, s, "d/"+strings.Repeat("[l]/", 9)+"f")
}

// when is paths that are told just if something holds.
func when(holds bool, paths ...string) []string {
	if holds {
		return paths
	}
	return nil
}

// P11.1: what a directory's Mode lets tell: 4 its names, 1 what is behind them.
func TestModes(t *testing.T) {
	base := build(t, "d/", "d/f", "d/e/", "d/e/g", "l -> d", "x")
	for m := range 8 {
		s := mode(base, "d", m)
		read, search := m&4 != 0, m&1 != 0
		for _, way := range []string{"d", "l", "/d", "./l"} {
			hold(t, s, way+"/*", when(read, way+"/e", way+"/f")...)
			hold(t, s, way+"/[f]", when(read, way+"/f")...)
			hold(t, s, way+"/*/", when(read && search, way+"/e/")...)
			hold(t, s, way+"/*/g", when(read && search, way+"/e/g")...)
			hold(t, s, way+"/*/*", when(read && search, way+"/e/g")...)
			hold(t, s, way+"/e/*", when(search, way+"/e/g")...)
		}
		hold(t, s, "d/./*", when(read && search, "d/./e", "d/./f")...)
		hold(t, s, "[d]/f", when(search, "d/f")...)
		hold(t, s, "[l]/f", when(search, "l/f")...)
		hold(t, s, "[d]/nothing")
		hold(t, s, "?/e/g", when(search, "d/e/g", "l/e/g")...)
		hold(t, s, "[d]/.", when(search, "d/.")...)
		hold(t, s, "[d]/../x", when(search, "d/../x")...)
		// To be told, and to be a directory, it is not asked for its own Mode.
		hold(t, s, "?", "d", "l", "x")
		hold(t, s, "?/", "d/", "l/")
		hold(t, s, "/?/", "/d/", "/l/")
		// "" is asked as ".", which is searched.
		holdFrom(t, s, "d", "*", when(read && search, "e", "f")...)
		holdFrom(t, s, "d", "*/", when(read && search, "e/")...)
		holdFrom(t, s, "d", "./*", when(read && search, "./e", "./f")...)
		holdFrom(t, s, "d", "e/*", when(search, "e/g")...)
		holdFrom(t, s, "d", "../?", when(search, "../d", "../l", "../x")...)
		holdFrom(t, s, "d", "/?", "/d", "/l", "/x")
		holdFrom(t, s, "d", "/d/*", when(read, "/d/e", "/d/f")...)
	}
}

// P11.1: the root's Mode: a path / has no name that it would be searched for.
func TestRootModes(t *testing.T) {
	base := build(t, "d/", "d/f", "x")
	for m := range 8 {
		s := mode(base, "", m)
		want := func(mode int, paths ...string) []string { return when(m&mode == mode, paths...) }
		hold(t, s, "/*", want(4, "/d", "/x")...)
		hold(t, s, "*", want(5, "d", "x")...)
		hold(t, s, "*/", want(5, "d/")...)
		hold(t, s, "/*/", want(5, "/d/")...)
		hold(t, s, "/*/f", want(5, "/d/f")...)
		hold(t, s, "/d/*", want(1, "/d/f")...)
		hold(t, s, "d/*", want(1, "d/f")...)
		hold(t, s, "./*", want(5, "./d", "./x")...)
		holdFrom(t, s, "d", "*", "f")
		holdFrom(t, s, "d", "../*", want(4, "../d", "../x")...)
		holdFrom(t, s, "d", "../*/f", want(5, "../d/f")...)
		holdFrom(t, s, "d", "/*", want(4, "/d", "/x")...)
	}
}

// P11.1: Modes of files and of links hinder nothing.
func TestOtherModes(t *testing.T) {
	s := build(t, "f", "d/", "d/g", "l -> d", "n -> nothing")
	for m := range 8 {
		s := mode(mode(mode(mode(s, "f", m), "l", m), "d/g", m), "n", m)
		hold(t, s, "*", "d", "f", "l", "n")
		hold(t, s, "*/", "d/", "l/")
		hold(t, s, "*/g", "d/g", "l/g")
		hold(t, s, "l/*", "l/g")
		hold(t, s, "*/*", "d/g", "l/g")
	}
}

// P11.1: directories of one Mode beside those of another: each is asked for its own.
func TestModesBeside(t *testing.T) {
	s := build(t, "a/", "a/x", "b/", "b/x", "c/", "c/x", "e/", "e/x")
	s = mode(mode(mode(s, "a", 3), "b", 6), "e", 2)
	hold(t, s, "*/*", "b/x", "c/x")
	hold(t, s, "*/x", "a/x", "c/x")
	hold(t, s, "*/", "a/", "b/", "c/", "e/")
	hold(t, s, "*", "a", "b", "c", "e")
	hold(t, s, "*/../[ab]/*", "a/../b/x", "c/../b/x")
}

// deep is a chain of directories of names of so many bytes, a file f in the last one, and the path of that one.
func deep(t *testing.T, names, length int) (api.Tree, string) {
	var lines []string
	p := ""
	for range names {
		p += strings.Repeat("n", length) + "/"
		lines = append(lines, p)
	}
	p = strings.TrimSuffix(p, "/")
	s := build(t, lines...)
	s, _, err := make.Create(s, at(s, p), "f", 6) // from the root on its path may be too long
	if err != api.OK {
		t.Fatal(err)
	}
	return s, p
}

// P11.1, chapter 4: a path that is asked for may have 1024 bytes, not more; names behind it are not asked.
func TestLongPaths(t *testing.T) {
	s, p := deep(t, 16, 63) // 16 names of 63 bytes and 15 slashes: 1023 bytes
	if _, err := walk.Walk(s, 0, p, true); len(p) != 1023 || err != api.OK {
		t.Fatalf("%d bytes, %v", len(p), err)
	}
	stars := strings.Repeat("*/", 16)
	hold(t, s, stars, p+"/")
	hold(t, s, "/"+stars, "/"+p+"/")
	hold(t, s, "//"+stars, "/"+p+"/")
	hold(t, s, "./"+stars)
	hold(t, s, "./"+strings.Repeat("*/", 15), "./"+p[:959]+"/")
	hold(t, s, stars+"f")
	hold(t, s, stars+".")
	hold(t, s, stars+"*/")
	hold(t, s, stars+"*", p+"/f")
	hold(t, s, "/"+stars+"*", "/"+p+"/f")
	hold(t, s, stars+"*/*")
	// From the first directory on there is room for all.
	first := p[:63]
	holdFrom(t, s, first, strings.Repeat("*/", 15)+"f", p[64:]+"/f")
	holdFrom(t, s, first, strings.Repeat("*/", 15)+"?", p[64:]+"/f")
	dots := strings.Repeat("./", 511)
	hold(t, s, dots+"*/")
	hold(t, s, dots+"*", dots+first)
	holdFrom(t, s, p, dots+"[f]", dots+"f")
	holdFrom(t, s, p, dots+"./[f]", dots+"./f")
	holdFrom(t, s, p, dots+"././[f]")
}

// P11.1: of what is there through several names each is told.
func TestNamesOfOne(t *testing.T) {
	s := build(t, "f", "g = f", "d/", "d/f = f", "l -> f", "m = l", "d/m = l")
	hold(t, s, "*", "d", "f", "g", "l", "m")
	hold(t, s, "*/*", "d/f", "d/m")
	hold(t, s, "?/m", "d/m")
	if got := plain("*").expand(s, 0); !slices.IsSorted(got) {
		t.Errorf("Expand = %v", got)
	}
}
