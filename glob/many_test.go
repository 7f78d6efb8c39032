package glob_test

import (
	"slices"
	"strconv"
	"testing"

	"windlass/api"
)

// most is how many paths there may be behind a part.
const most = 1024

// ks is the paths of the names that crowded gives, some ahead of them, some behind each.
func ks(ahead string, names int, behind string) []string {
	var all []string
	for i := range names {
		all = append(all, ahead+"k"+strconv.Itoa(10000+i)+behind)
	}
	return all
}

// P11.1: as many paths behind the first part as a directory may have names.
func TestMostFirst(t *testing.T) {
	for _, names := range []int{most - 1, most} {
		s := crowded(build(t, "d/", "t/", "t/o", "f"), "d", "f", names)
		holdFit(t, s)
		holdFrom(t, s, "d", "*", ks("", names, "")...)
		holdFrom(t, s, "d", "*/")
		holdFrom(t, s, "d", "*/*")
		hold(t, s, "d/*", ks("d/", names, "")...)
		hold(t, s, "/d/*", ks("/d/", names, "")...)
		hold(t, s, "[d]/*", ks("d/", names, "")...)
		s = crowded(build(t, "d/", "t/", "t/o", "l -> /t"), "d", "l", names)
		holdFit(t, s)
		holdFrom(t, s, "d", "*", ks("", names, "")...)
		holdFrom(t, s, "d", "*/", ks("", names, "/")...)
		holdFrom(t, s, "d", "*/o", ks("", names, "/o")...)
		holdFrom(t, s, "d", "*/*", ks("", names, "/o")...)
		holdFrom(t, s, "d", "*0/o", slices.DeleteFunc(ks("", names, "/o"), func(p string) bool { return p[5] != '0' })...)
	}
}

// crowds is a tree with two directories that have such numbers of links to a directory with one file, o, in it.
func crowds(t *testing.T, a, b int) api.Tree {
	s := build(t, "a/", "b/", "t/", "t/o", "l -> /t")
	s = crowded(crowded(s, "a", "l", a), "b", "l", b)
	holdFit(t, s)
	return s
}

// P11.1: just 1024 paths behind a part, and 1025: behind one between two, behind the last one, with a slash and without.
func TestMostBetween(t *testing.T) {
	for _, x := range [][2]int{{most, 0}, {most - 1, 1}, {512, 512}, {most, 1}, {513, 512}, {most, most}} {
		s := crowds(t, x[0], x[1])
		may := x[0]+x[1] <= most
		want := func(behind string) []string {
			return when(may, append(ks("a/", x[0], behind), ks("b/", x[1], behind)...)...)
		}
		hold(t, s, "[ab]/k*", want("")...)
		hold(t, s, "[ab]/k*/", want("/")...)
		hold(t, s, "[ab]/*/o", want("/o")...)
		hold(t, s, "[ab]/*/[o]", want("/o")...)
		hold(t, s, "[ab]/*/./", want("/./")...)
		hold(t, s, "./[ab]/*/../t/o", when(may, append(ks("./a/", x[0], "/../t/o"), ks("./b/", x[1], "/../t/o")...)...)...)
		// More of them behind one part are too many, however few there would be behind the next one.
		hold(t, s, "[ab]/*/nothing")
		hold(t, s, "[ab]/*/x*")
		hold(t, s, "[ab]/*/o/")
		hold(t, s, "[ab]/*/o/*")
		// Each alone has no more than may be.
		hold(t, s, "[a]/*/o", ks("a/", x[0], "/o")...)
		hold(t, s, "[b]/*/o", ks("b/", x[1], "/o")...)
		hold(t, s, "?/o", "l/o", "t/o")
	}
}

// P11.1: more than may be behind a part between two tell none, even where the next part has less.
func TestMostLater(t *testing.T) {
	s := crowded(crowds(t, most, 0), "b", "t/o", 3) // three files beside: they don't stay ahead of a part
	holdFit(t, s)
	hold(t, s, "[ab]/*/o", ks("a/", most, "/o")...)
	hold(t, s, "[ab]/*/", ks("a/", most, "/")...)
	hold(t, s, "[ab]/*")
	hold(t, s, "[ab]/*1", slices.DeleteFunc(append(ks("a/", most, ""), ks("b/", 3, "")...), func(p string) bool { return p[7] != '1' })...)
	s = crowds(t, most, 1)
	hold(t, s, "[ab]/*/o")
	hold(t, s, "[ab]/*/")
	hold(t, s, "[ab]/k10000/o", "a/k10000/o", "b/k10000/o")
	hold(t, s, "[ab]/*[!0]/o", slices.DeleteFunc(ks("a/", most, "/o"), func(p string) bool { return p[7] == '0' })...)
}

// P11.1: names that a part doesn't want are not counted, those that it wants are, each as often as it is come to.
func TestMostWanted(t *testing.T) {
	s := crowds(t, 600, 600)
	hold(t, s, "[ab]/*")
	hold(t, s, "[ab]/k10[0-4]*", append(ks("a/", 500, ""), ks("b/", 500, "")...)...)
	hold(t, s, "[ab]/?10[0-4]*/o", append(ks("a/", 500, "/o"), ks("b/", 500, "/o")...)...)
	hold(t, s, "[ab]/.*")
	hold(t, s, "[ab]/x*")
	// 32 by 32 are just as many as may be, 33 by 33 are more.
	for _, n := range []int{31, 32, 33} {
		s := crowded(build(t, "d/", "l -> /d"), "d", "l", n)
		holdFit(t, s)
		var want []string
		for _, p := range ks("", n, "/") {
			want = append(want, ks(p, n, "")...)
		}
		holdFrom(t, s, "d", "*/*", when(n <= 32, want...)...)
		holdFrom(t, s, "d", "*/*/nothing")
		holdFrom(t, s, "d", "*/*/k10000", when(n <= 32, appended(want, "/k10000")...)...)
	}
}

// appended is texts with another one behind each.
func appended(all []string, behind string) []string {
	var more []string
	for _, p := range all {
		more = append(more, p+behind)
	}
	return more
}
