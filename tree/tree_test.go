package tree

import (
	"fmt"
	"math/rand"
	"slices"
	"strings"
	"testing"

	"cowrie/api"
)

// small is a tree: a directory of a directory, with a name that stands between a directory and what is in it.
func small() []api.Node {
	return []api.Node{dir("/a"), leaf("/a.b", "ab"), leaf("/a/c", "1\n"), dir("/a/d"), leaf("/a/d.e", ""), leaf("/a/d/e", "\x00\xff"), leaf("/a0", "0"), dir("/b"), leaf("/~", "x")}
}

// TestPath: P7.1, a path as it is told.
func TestPath(t *testing.T) {
	for _, c := range [][2]string{
		{"a//./b/../c", "/a/c"}, {"/", "/"}, {"//", "/"}, {".", "/"}, {"..", "/"}, {"../..", "/"}, {"/../a", "/a"}, {"a", "/a"}, {"/a", "/a"},
		{"a/", "/a"}, {"/a/b/", "/a/b"}, {"a/..", "/"}, {"a/../..", "/"}, {"a/../../b", "/b"}, {"a/b/../../c/.", "/c"}, {"...", "/..."},
		{".a", "/.a"}, {"..a/a..", "/..a/a.."}, {"a b/\n", "/a b/\n"}, {"\\", "/\\"}, {"\xff/\x80", "/\xff/\x80"}, {"./../.", "/"}, {" ", "/ "},
		{"a/b/c/../../../..", "/"}, {"ab/cd/..", "/ab"}, {"é/..", "/"},
	} {
		if p, e := Path(c[0]); p != c[1] || e != api.OK {
			t.Errorf("P7.1: Path(%q): %q, %d, want %q", c[0], p, e, c[1])
		}
	}
	for _, s := range []string{"", "\x00", "a\x00", "\x00a", "a/\x00/..", "/\x00"} {
		if p, e := Path(s); p != "" || e != api.ErrName {
			t.Errorf("P7.1: Path(%q): %q, %d, want ErrName", s, p, e)
		}
	}
	for _, s := range spans("/.a\x00", 7) {
		p, e := Path(s)
		if w, f := slowPath(s); p != w || e != f {
			t.Errorf("P7.1: Path(%q): %q, %d, want %q, %d", s, p, e, w, f)
		}
		if again, f := Path(p); e == api.OK && (again != p || f != api.OK) {
			t.Errorf("P7.1: Path(Path(%q)): %q, %d", s, again, f)
		}
	}
}

// TestCheck: P7.1, what a tree is.
func TestCheck(t *testing.T) {
	for _, l := range [][]api.Node{nil, {}, small(), {leaf("/x", "")}, {dir("/x")}, {dir("/x"), dir("/x/x"), dir("/x/x/x")}, {leaf("/\x01", "b"), leaf("/...", "a")}} {
		if e := Check(l); e != api.OK {
			t.Errorf("P7.1: Check(%s): %d", shape(l), e)
		}
	}
	for _, l := range [][]api.Node{
		{leaf("", "")}, {dir("/")}, {leaf("/", "")}, {leaf("x", "")}, {leaf("/x/", "")}, {leaf("//x", "")}, {leaf("/./x", "")}, {leaf("/../x", "")},
		{dir("/.")}, {dir("/..")}, {leaf("/x\x00", "")}, {leaf("/a/b", "")}, {leaf("/a", ""), leaf("/a/b", "")}, {dir("/a"), leaf("/a/b/c", "")},
		{dir("/a"), leaf("/a//b", "")}, {dir("/a"), leaf("/a/b/..", "")}, {leaf("/b", ""), leaf("/a", "")}, {leaf("/a", ""), leaf("/a", "")},
		{dir("/a"), dir("/a")}, {dir("/a"), leaf("/a", "")}, {leaf("/a", ""), dir("/a")}, {{Path: "/a", Dir: true, Data: "x"}}, {leaf("/a", ""), {}},
		{dir("/a"), leaf("/a/b", ""), leaf("/a.b", "")}, {leaf("/a/b", ""), dir("/a")}, {dir("/ab"), leaf("/ab/c", ""), leaf("/ac/d", "")},
	} {
		if e := Check(l); e != api.ErrState {
			t.Errorf("P7.1: Check(%s): %d, want ErrState", shape(l), e)
		}
	}
}

// TestCheckAll: P7.1, all lists of at most three of some nodes.
func TestCheckAll(t *testing.T) {
	pool := []api.Node{dir("/a"), leaf("/a", ""), leaf("/a", "x"), leaf("/a/b", "x"), dir("/a/b"), leaf("/a/b/c", ""), leaf("/a.b", ""), leaf("/b", "\x00"), dir("/"), leaf("a", ""), leaf("/a/", ""), leaf("/a/../b", ""), {Path: "/b", Dir: true, Data: "y"}, {}, leaf("/\x00", ""), dir("/a/.")}
	var lists func(l []api.Node)
	lists = func(l []api.Node) {
		if e := Check(l); e != slowCheck(l) {
			t.Errorf("P7.1: Check(%s): %d", shape(l), e)
		}
		if len(l) < 3 {
			for _, n := range pool {
				lists(append(slices.Clone(l), n))
			}
		}
	}
	lists(nil)
}

// many is a tree of so many files, each with that Data.
func many(n int, data string) []api.Node {
	var l []api.Node
	for i := range n {
		l = append(l, leaf(fmt.Sprintf("/f%04d", i), data))
	}
	return l
}

// TestLimits: P7.1, MaxNodes and MaxFile, where they are met and where they are not.
func TestLimits(t *testing.T) {
	for _, c := range []struct {
		l    []api.Node
		want api.Errno
	}{
		{many(256, ""), api.OK}, {many(257, ""), api.ErrState}, {many(256, strings.Repeat("x", 256)), api.OK}, {many(1, strings.Repeat("x", 65536)), api.OK},
		{many(1, strings.Repeat("x", 65537)), api.ErrState}, {append(many(255, strings.Repeat("x", 256)), leaf("/g", strings.Repeat("x", 257))), api.ErrState},
		{many(100000, ""), api.ErrState}, {[]api.Node{leaf("/"+strings.Repeat("x", 1<<20), "")}, api.OK},
	} {
		if e := Check(c.l); e != c.want {
			t.Errorf("P7.1: Check of %d nodes: %d, want %d", len(c.l), e, c.want)
		}
	}
	whole := many(256, strings.Repeat("x", 255))
	for _, path := range []string{"/f0000", "/f0255", "f0100", "/g", "/", "/f0000/x", "/g/h"} {
		for _, n := range []int{0, 1, 254, 255, 256, 510, 511, 512, 65536, 65537} {
			asks(t, whole, path, strings.Repeat("y", n))
		}
	}
	almost := append(many(254, strings.Repeat("x", 256)), dir("/g"))
	for _, path := range []string{"/f0000", "/g", "/g/h", "/h", "/h/i", "/f0000/x"} {
		for _, n := range []int{0, 1, 255, 256, 257, 511, 512, 513, 767, 768, 769} {
			asks(t, almost, path, strings.Repeat("y", n))
		}
	}
	single := []api.Node{leaf("/f", strings.Repeat("x", 65535))}
	for _, path := range []string{"/f", "/g", "/", "/g/h", "/f/h"} {
		for _, n := range []int{0, 1, 2, 65535, 65536, 65537} {
			asks(t, single, path, strings.Repeat("y", n))
		}
	}
}

// TestPut: P7.1, files in their places.
func TestPut(t *testing.T) {
	for _, c := range []struct {
		path string
		want api.Errno
	}{
		{"/", api.ErrDir}, {"a/..", api.ErrDir}, {"/a", api.ErrDir}, {"b/", api.ErrDir}, {"/a/d/.", api.ErrDir}, {"/n/o", api.ErrNone}, {"/a/n/o", api.ErrNone}, {"/a0/n/o", api.ErrNone},
		{"/a0/n", api.ErrNotDir}, {"/a/c/n", api.ErrNotDir}, {"", api.ErrName}, {"/a\x00", api.ErrName}, {"/a/./c", api.OK}, {"n", api.OK}, {"b/n", api.OK}, {"/a0/../n", api.OK}, {"n/", api.OK},
	} {
		for name, put := range map[string]func([]api.Node, string, string) ([]api.Node, api.Errno){"Put": Put, "Add": Add} {
			l, e := put(small(), c.path, "new")
			if e != c.want || e != api.OK && len(l) > 0 {
				t.Errorf("P7.1: %s(%q): %d nodes, %d, want %d", name, c.path, len(l), e, c.want)
			}
		}
	}
	l, e := Add(small(), "/a/c", "2\n")
	if s, f := Get(l, "a/c"); s != "1\n2\n" || e != api.OK || f != api.OK || len(l) != len(small()) {
		t.Errorf("P7.1: Add: %q, %d, %d", s, e, f)
	}
	l, e = Put(small(), "/a/c", "2\n")
	if s, f := Get(l, "a/c"); s != "2\n" || e != api.OK || f != api.OK || len(l) != len(small()) {
		t.Errorf("P7.1: Put: %q, %d, %d", s, e, f)
	}
}

// TestGet: P7.1, Data.
func TestGet(t *testing.T) {
	for _, c := range []struct {
		path, data string
		want       api.Errno
	}{
		{"/a.b", "ab", api.OK}, {"a/d/e", "\x00\xff", api.OK}, {"/a/d.e", "", api.OK}, {"a/c/", "1\n", api.OK}, {"/a/c/../c", "1\n", api.OK}, {"/", "", api.ErrDir}, {"/a", "", api.ErrDir},
		{"..", "", api.ErrDir}, {"/a/x", "", api.ErrNone}, {"/x/y", "", api.ErrNone}, {"/a/c/x", "", api.ErrNone}, {"/A", "", api.ErrNone}, {"", "", api.ErrName}, {"\x00", "", api.ErrName},
	} {
		if s, e := Get(small(), c.path); s != c.data || e != c.want {
			t.Errorf("P7.1: Get(%q): %q, %d, want %q, %d", c.path, s, e, c.data, c.want)
		}
	}
}

// TestMkdir: P7.1, new directories.
func TestMkdir(t *testing.T) {
	for _, c := range []struct {
		path string
		want api.Errno
	}{
		{"/", api.ErrExist}, {"..", api.ErrExist}, {"/a", api.ErrExist}, {"/a/c", api.ErrExist}, {"/n/o", api.ErrNone}, {"/a/c/n", api.ErrNotDir}, {"/a/c/n/o", api.ErrNone},
		{"", api.ErrName}, {"n\x00", api.ErrName}, {"n", api.OK}, {"/a/d/n/", api.OK}, {"a/n", api.OK},
	} {
		l, e := Mkdir(small(), c.path)
		if e != c.want || e != api.OK && len(l) > 0 || e == api.OK && (Kind(l, c.path) != 2 || len(l) != len(small())+1 || Check(l) != api.OK) {
			t.Errorf("P7.1: Mkdir(%q): %s, %d, want %d", c.path, shape(l), e, c.want)
		}
	}
	full := append(many(255, ""), dir("/g"))
	for path, want := range map[string]api.Errno{"/h": api.ErrFull, "/g/h": api.ErrFull, "/g": api.ErrExist, "/f0000": api.ErrExist, "/f0000/x": api.ErrNotDir, "/h/x": api.ErrNone, "/": api.ErrExist} {
		if l, e := Mkdir(full, path); len(l) > 0 || e != want {
			t.Errorf("P7.1: Mkdir(%q), no room: %d, want %d", path, e, want)
		}
	}
}

// TestRemove: P7.2, and all beneath it, nothing beside it.
func TestRemove(t *testing.T) {
	for _, c := range []struct {
		path  string
		all   bool
		want  api.Errno
		paths string
	}{
		{"/a", true, api.OK, "/a.b /a0 /b /~"}, {"/a", false, api.ErrDir, ""}, {"/b", false, api.ErrDir, ""}, {"/b", true, api.OK, "/a /a.b /a/c /a/d /a/d.e /a/d/e /a0 /~"},
		{"/a/d/", true, api.OK, "/a /a.b /a/c /a/d.e /a0 /b /~"}, {"/a.b", false, api.OK, "/a /a/c /a/d /a/d.e /a/d/e /a0 /b /~"}, {"a.b", true, api.OK, "/a /a/c /a/d /a/d.e /a/d/e /a0 /b /~"},
		{"/", true, api.ErrDir, ""}, {"/", false, api.ErrDir, ""}, {"..", true, api.ErrDir, ""}, {"/x", true, api.ErrNone, ""}, {"/x", false, api.ErrNone, ""}, {"/a/c/x", true, api.ErrNone, ""},
		{"", true, api.ErrName, ""}, {"\x00", false, api.ErrName, ""},
	} {
		l, e := Remove(small(), c.path, c.all)
		var paths []string
		for _, n := range l {
			paths = append(paths, n.Path)
		}
		if e != c.want || strings.Join(paths, " ") != c.paths {
			t.Errorf("P7.2: Remove(%q, %t): %q, %d, want %q, %d", c.path, c.all, paths, e, c.paths, c.want)
		}
	}
	for _, path := range []string{"/", ".", "/x"} {
		want := map[bool]api.Errno{true: api.ErrNone, false: api.ErrDir}[path == "/x"]
		if l, e := Remove(nil, path, true); len(l) > 0 || e != want {
			t.Errorf("P7.2: Remove(nil, %q): %d, want %d", path, e, want)
		}
	}
}

// TestList: P7.2, names in order; nothing of the directories within.
func TestList(t *testing.T) {
	for _, c := range []struct {
		path, names string
		want        api.Errno
	}{
		{"/", "a a.b a0 b ~", api.OK}, {"..", "a a.b a0 b ~", api.OK}, {"a", "c d d.e", api.OK}, {"/a/d/", "e", api.OK}, {"b", "", api.OK},
		{"/a/c", "", api.ErrNotDir}, {"a0", "", api.ErrNotDir}, {"/a/x", "", api.ErrNone}, {"/a0/x", "", api.ErrNone}, {"", "", api.ErrName}, {"a\x00", "", api.ErrName},
	} {
		l, e := List(small(), c.path)
		if strings.Join(l, " ") != c.names || e != c.want {
			t.Errorf("P7.2: List(%q): %q, %d, want %q, %d", c.path, l, e, c.names, c.want)
		}
	}
	if l, e := List(nil, "/"); len(l) > 0 || e != api.OK {
		t.Error("P7.2: List of none:", l, e)
	}
}

// TestKind: P7.2, what is there.
func TestKind(t *testing.T) {
	for path, want := range map[string]int{"/": 2, ".": 2, "a": 2, "/a/d/": 2, "/a/../b": 2, "a.b": 1, "/a/d/e": 1, "/~": 1, "/x": 0, "/a/x": 0, "/a.b/x": 0, "": 0, "\x00": 0, "/\x00/..": 0} {
		if kind := Kind(small(), path); kind != want {
			t.Errorf("P7.2: Kind(%q): %d, want %d", path, kind, want)
		}
	}
	bad := []api.Node{leaf("/b", ""), leaf("/a", "")}
	if Kind(bad, "/") != 0 || Kind(bad, "/a") != 0 || Kind(bad, "/b") != 0 || Kind(nil, "/") != 2 || Kind(nil, "/a") != 0 {
		t.Error("P7.2: Kind in no tree, in an empty one")
	}
}

// TestOrderOfErrors: P7.1, Check's, then Path's, then the call's; beside an error there is nothing.
func TestOrderOfErrors(t *testing.T) {
	for _, l := range [][]api.Node{nil, {}, small(), {leaf("/b", ""), leaf("/a", "")}, {leaf("/a", ""), leaf("/a/b", "")}, {{Path: "/a", Dir: true, Data: "x"}}, many(257, "")} {
		for _, path := range []string{"", "\x00", "/", "/a", "/a/b", "a/b/c", "/x", "/x/y", ".."} {
			for _, data := range []string{"", "x", strings.Repeat("x", 65536), strings.Repeat("x", 65537)} {
				asks(t, l, path, data)
			}
		}
	}
}

// TestAll: P7.1 and P7.2, every call, at every path, of trees that grew and shrank by chance.
func TestAll(t *testing.T) {
	r := rand.New(rand.NewSource(7))
	path := func() string {
		var l []string
		for range 1 + r.Intn(4) {
			l = append(l, []string{"a", "a", "b", "a.b", "a0", "", ".", "..", "c"}[r.Intn(9)])
		}
		return []string{"", "/"}[r.Intn(2)] + strings.Join(l, "/")
	}
	for range 60 {
		var nodes []api.Node
		for range 60 {
			p, data := path(), []string{"", "x", "a\x00\n"}[r.Intn(3)]
			asks(t, nodes, p, data)
			var l []api.Node
			var e api.Errno
			switch r.Intn(8) {
			case 0, 1:
				l, e = Put(nodes, p, data)
			case 2:
				l, e = Add(nodes, p, data)
			case 3, 4, 5, 6:
				l, e = Mkdir(nodes, p)
			default:
				l, e = Remove(nodes, p, r.Intn(2) == 0)
			}
			if e == api.OK {
				nodes = l
			}
		}
		if t.Failed() {
			return
		}
	}
}

// TestGot: P7.3, what was put is got, and nothing else is touched.
func TestGot(t *testing.T) {
	for _, nodes := range [][]api.Node{nil, small(), many(255, "x")} {
		for _, path := range []string{"/n", "n/../n/", "/a.b", "/f0001", "\xff", "/\n"} {
			for _, data := range []string{"", "x", "a b\n", "\x00", strings.Repeat("\xfe", 60000)} {
				l, e := Put(nodes, path, data)
				if s, f := Get(l, path); s != data || e != api.OK || f != api.OK || Kind(l, path) != 1 || Check(l) != api.OK {
					t.Errorf("P7.3: Get of Put(%.60s, %q, %.20q): %.20q, %d, %d", shape(nodes), path, data, s, e, f)
				}
				p, _ := Path(path)
				for _, n := range nodes {
					if s, f := Get(l, n.Path); n.Path != p && !n.Dir && (s != n.Data || f != api.OK) {
						t.Errorf("P7.3: %q, behind Put(%q): %.20q, %d", n.Path, path, s, f)
					}
				}
				more, e := Add(l, path, "+")
				if s, f := Get(more, path); s != data+"+" || e != api.OK || f != api.OK {
					t.Errorf("P7.3: Get of Add(%q): %.20q, %d, %d", path, s, e, f)
				}
				back, e := Remove(l, path, false)
				if Kind(back, path) != 0 || e != api.OK {
					t.Errorf("P7.3: Remove(%q), behind Put: %d", path, e)
				}
			}
		}
	}
}
