package glob_test

import (
	"slices"
	"strings"
	"testing"
)

// longest is how many bytes an argument may have.
const longest = 4096

// P11.1: patterns of 4096 bytes: one part, many parts, slashes alone or nearly so.
func TestLongPatterns(t *testing.T) {
	s := build(t, "a", "b/", "b/c", "b/d/", "b/d/e", ".h", "l -> .")
	hold(t, s, filled("*", longest), "a", "b", "l")
	hold(t, s, "/"+filled("*", longest-1), "/a", "/b", "/l")
	hold(t, s, filled("*", longest-1)+"/", "b/", "l/")
	hold(t, s, "."+filled("*", longest-1), ".h")
	hold(t, s, filled("?", longest))
	hold(t, s, filled("*?", longest-1))
	hold(t, s, "?"+filled("*", longest-1), "a", "b", "l")
	hold(t, s, filled("/", longest))
	hold(t, s, filled("/", longest-1)+"*", "/a", "/b", "/l")
	hold(t, s, "*"+filled("/", longest-1), "b/", "l/")
	hold(t, s, "*"+filled("/", longest-2)+"*", "b/c", "b/d", "l/a", "l/b", "l/l")
	hold(t, s, "b"+filled("/", longest-2)+"*", "b/c", "b/d")
	hold(t, s, "["+filled("ab-z", longest-2)+"]", "a", "b", "l")
	hold(t, s, "[!"+filled("abc-z", longest-3)+"]")
	hold(t, s, filled("[a", longest))
	hold(t, s, filled("[a]*/", longest))
	hold(t, s, filled("[", longest))
	hold(t, s, filled("a", longest))
	hold(t, s, filled("a", longest-1)+"*")
	hold(t, s, filled("a/", longest-1)+"*")
	hold(t, s, "[b]/"+filled("c", longest-4))
	hold(t, s, filled("*/", longest))
	hold(t, s, filled("[l]/", longest))
	hold(t, s, filled("./", longest-1)+"*")
	hold(t, s, filled("*/../", longest))
	back := filled("b/../", 1020)
	hold(t, s, back+"*", back+"a", back+"b", back+"l")
	hold(t, s, "[b]/"+filled("d/../", 1000)+"?", "b/"+filled("d/../", 1000)+"c", "b/"+filled("d/../", 1000)+"d")
	hold(t, s, filled("[b]/../", 1386)+"b/[c]", filled("b/../", 990)+"b/c")
	hold(t, s, filled("b///..//", 1584)+"/b//[c]", filled("b/../", 990)+"b/c")
}

// P11.1: quoted of 4096 bytes, and of more than the pattern has.
func TestLongQuoted(t *testing.T) {
	s := build(t, "*", "**", "a", "d/", "d/*", "d/**", "d/a")
	zeros, ones := filled("0", longest), filled("1", longest)
	holdPat(t, s, 0, pat{"*", zeros}, "*", "**", "a", "d")
	holdPat(t, s, 0, pat{"*", ones})
	holdPat(t, s, 0, pat{"**", "0" + ones}, "*", "**")
	holdPat(t, s, 0, pat{filled("*", longest), ones})
	holdPat(t, s, 0, pat{filled("*", longest), zeros}, "*", "**", "a", "d")
	holdPat(t, s, 0, pat{filled("*", longest), ones[:longest-1]}) // of 4095 * and any bytes behind there is no name
	holdPat(t, s, 0, pat{filled("*", longest), ones[:2]}, "**")
	holdPat(t, s, 0, pat{filled("*", longest), zeros[:longest-3] + ones}) // there is no name of three *
	slashes := "d" + filled("/", longest-3)
	holdPat(t, s, 0, pat{slashes + "**", ones[:longest-2] + "10"}, "d/*", "d/**")
	holdPat(t, s, 0, pat{slashes + "**", ones[:longest-2] + "00"}, "d/*", "d/**", "d/a")
	holdPat(t, s, 0, pat{slashes + "**", ones[:longest-2]}, "d/*", "d/**", "d/a")
	holdPat(t, s, 0, pat{slashes + "**", ones})
	holdPat(t, s, 0, pat{slashes + "**", ones[:longest-1]}, "d/*", "d/**")
}

// P11.1: long parts, and many names to hold against them, that many paths lead to.
func TestLongAndMany(t *testing.T) {
	s := crowded(build(t, "d/", "t/", "t/o", "l -> /t", "f"), "d", "l", 1024)
	s = crowded(s, "t", "f", 1023)
	holdFit(t, s)
	holdFrom(t, s, "d", "*/"+filled("*", longest-2)) // 1024 by 1024
	holdFrom(t, s, "d", "*/"+filled("?", longest-2))
	holdFrom(t, s, "d", "*/"+filled("*", longest-3)+"o", ks("", 1024, "/o")...)
	holdFrom(t, s, "d", "*/[!"+filled("a-n", longest-5)+"]", ks("", 1024, "/o")...)
	holdFrom(t, s, "d", filled("*", longest-2)+"/o", ks("", 1024, "/o")...)
	holdFrom(t, s, "d", filled("*/", longest))
	holdFrom(t, s, "d", "*/"+filled("[o]", longest-2)[:longest-2])
	holdFrom(t, s, "d", "*"+filled("/.", 200)+"/o", ks("", 1024, filled("/.", 200)+"/o")...)
}

// P11.1: deep trees: as many parts as there are directories in one another.
func TestDeep(t *testing.T) {
	s, p := deep(t, 250, 1)
	for _, n := range []int{1, 2, 30, 249, 250} {
		stars := strings.Repeat("*/", n)
		hold(t, s, stars, p[:2*n-1]+"/")
		hold(t, s, "/"+stars, "/"+p[:2*n-1]+"/")
		hold(t, s, strings.TrimSuffix(stars, "/"), p[:2*n-1])
	}
	stars := strings.Repeat("*/", 250)
	hold(t, s, stars+"*", p+"/f")
	hold(t, s, stars+"f", p+"/f")
	hold(t, s, stars+"f/")
	hold(t, s, stars+"*/")
	hold(t, s, stars+"*/*")
	hold(t, s, p+"/[f]", p+"/f")
	holdFrom(t, s, p, "*", "f")
	holdFrom(t, s, p, strings.Repeat("../", 250)+"*", strings.Repeat("../", 250)+"n")
	holdFrom(t, s, p, strings.Repeat("../", 260)+"[n]/", strings.Repeat("../", 260)+"n/")
	up := strings.Repeat("../", 100)
	holdFrom(t, s, p, up+"*/"+"[n]/..", up+"n/n/..")
}

// P11.1: of paths of many parts, each of which has two names that lead to one directory, all are told, up to 1024.
func TestTwoByTwo(t *testing.T) {
	s := build(t, "d/", "d/a/", "d/b -> a", "d/a/up -> ..", "d/a/vp = d/a/up")
	all := []string{""}
	for i := range 5 {
		var next []string
		for _, p := range all {
			for _, name := range [][]string{{"a/", "b/"}, {"up/", "vp/"}}[i%2] {
				next = append(next, p+name)
			}
		}
		slices.Sort(next)
		all = next
		holdFrom(t, s, "d", strings.Repeat("*/", i+1), all...)
	}
	two := build(t, "a/", "b/")
	for n := range 13 {
		paths := plain(strings.Repeat("?/../", n)+"*").expand(two, 0)
		want := 2 << n
		if want > 1024 {
			want = 0
		}
		if len(paths) != want {
			t.Errorf("%d parts of two: %d paths, not %d", n+1, len(paths), want)
		}
	}
}
