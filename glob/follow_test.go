package glob_test

import (
	"math/rand"
	"slices"
	"strings"
	"testing"

	"windlass/api"
	"windlass/walk"
)

// holdFollows wants what P11.2 says of paths that were told; barred: there may be directories that are not searched, in which names are told that no way leads to.
func holdFollows(t *testing.T, s api.Tree, cwd int, p pat, paths []string, barred bool) {
	t.Helper()
	for i, x := range paths {
		if i > 0 && paths[i-1] >= x {
			t.Fatalf("Expand of %v from %d: %q stands ahead of %q", p, cwd, paths[i-1], x)
		}
		if !p.asWanted(x) {
			t.Fatalf("Expand of %v from %d: %q is not as it wants it", p, cwd, x)
		}
		_, err := walk.Walk(s, cwd, x, strings.HasSuffix(x, "/"))
		if err != api.OK && !(barred && err == api.ErrAccess) {
			t.Fatalf("Expand of %v from %d: %q is not there: %v", p, cwd, x, err)
		}
	}
}

// P11.2: each path that is told is there, rises, and is as the pattern wants it, part by part.
func TestThere(t *testing.T) {
	s := linked(t)
	for _, written := range []string{
		"*", "*/", "/*", "//*//", "*/*", "*/*/", "*/*/*", "/*/*/*/", "*/f", "*/e/", "*/e/*", "*/./*", "./*/..", "to*/*", "*[!r]/[efg]", "d/*", "d/*/", "d/up/*", "d/in/../*", "*/up/*/up/*", `\d/[\e]/g`, "d/?", "toLink/*",
		"*/../*/../*", "toDeep/*", "toDeep/../*", "[t]*/[!f]*/", "?/?", "empty/*", "*/nothing",
	} {
		for _, cwd := range []string{"/", "d", "d/e", "empty"} {
			p := of(written)
			paths := p.expand(s, at(s, cwd))
			holdFollows(t, s, at(s, cwd), p, paths, false)
			if want := p.told(s, at(s, cwd)); !slices.Equal(paths, want) {
				t.Errorf("Expand of %v from %s = %s, not %s", p, cwd, listed(paths), listed(want))
			}
		}
	}
}

// P11.2: a name in a directory that is read, but not searched, is told, where a last part with Magic wants it, though no way leads to it; of no other part.
func TestThereBarred(t *testing.T) {
	s := mode(build(t, "d/", "d/f", "d/e/"), "d", 4)
	for _, written := range []string{"[d]/f", "d/[f]/", "d/*/", "*/e/", "*/.", "*/*/*", "*/*/."} {
		hold(t, s, written)
	}
	hold(t, s, "*/*", "d/e", "d/f")
}

// P11.3: all names of the directory cwd that do not begin with . are told for *, if it may be read and searched.
func TestStarOfCwd(t *testing.T) {
	t.Parallel()
	met := map[bool]int{}
	for seed := range int64(500) {
		s := grown(rand.New(rand.NewSource(seed)), true)
		for cwd, n := range s.Nodes {
			var want []string
			if n.Kind == api.InDir && n.Mode&5 == 5 {
				for _, e := range n.Kids {
					if e.Name[0] != '.' {
						want = append(want, e.Name)
					}
				}
			}
			met[len(want) > 0]++
			holdPat(t, s, cwd, plain("*"), want...)
			holdPat(t, s, cwd, pat{"*", "01"}, want...)
		}
		if t.Failed() {
			t.Fatalf("seed %d", seed)
		}
	}
	if met[true] < 500 || met[false] < 500 {
		t.Errorf("met %v", met)
	}
}

// P11.3: as many names as a directory may have, and each of those that it could have.
func TestStarOfMany(t *testing.T) {
	s := crowded(build(t, "d/", "f"), "d", "f", 1024)
	holdFrom(t, s, "d", "*", ks("", 1024, "")...)
	for c := 1; c < 256; c++ {
		name := string([]byte{byte(c)})
		if name == "/" || name == "." {
			continue
		}
		s := build(t, name, name+"x", "x"+name+".")
		holdFollows(t, s, 0, plain("*"), plain("*").expand(s, 0), false)
		hold(t, s, "*", sorted(name, name+"x", "x"+name+".")...)
		hold(t, s, `?`, name)
		hold(t, s, `?x`, name+"x")
	}
}

func sorted(all ...string) []string {
	slices.Sort(all)
	return slices.Compact(all)
}
