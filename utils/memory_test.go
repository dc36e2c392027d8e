package utils

import (
	"fmt"
	"slices"
	"strings"
	"sync"
	"testing"
	"time"
	"unsafe"

	"cowrie/api"
)

// shares: does a lie in b's memory? Texts of one octet are left out, as Go keeps one of each.
func shares(a, b string) bool {
	if len(a) < 2 || len(b) < 2 {
		return false
	}
	at, from := uintptr(unsafe.Pointer(unsafe.StringData(a))), uintptr(unsafe.Pointer(unsafe.StringData(b)))
	return at >= from && at < from+uintptr(len(b)) || from >= at && from < at+uintptr(len(a))
}

// apart asks that no text of one list lies in the memory of one of another list.
func apart(t *testing.T, what string, all ...[]string) {
	t.Helper()
	for i, l := range all {
		for _, other := range all[i+1:] {
			for _, a := range l {
				for _, b := range other {
					if shares(a, b) {
						t.Errorf("P12.3: %s: %q and %q are in one memory", what, a, b)
					}
				}
			}
		}
	}
}

// given is small() in memory of its own, with room behind in which an answer might be put.
func given() []api.Node {
	l := make([]api.Node, 0, 32)
	for _, n := range small() {
		l = append(l, api.Node{Path: strings.Clone(n.Path), Dir: n.Dir, Data: strings.Clone(n.Data)})
	}
	return l
}

// paths: all texts of a tree.
func paths(t []api.Node) []string {
	var l []string
	for _, n := range t {
		l = append(l, n.Path, n.Data)
	}
	return l
}

// call is a utility and its arguments.
type call struct {
	name string
	args []string
}

// calls: each utility, used as it can be and as it can't; of all that is told or left as it came in, too.
func calls() []call {
	l := []call{
		{"none", list("aa")}, {"echo", list("-n", "aaaa")}, {"echo", list("-n", "", "aaaa")}, {"printf", list("aaaa")}, {"printf", list("%s", "aaaa")}, {"printf", list("%b%", "aaaa")}, {"[", list("aaaa", "=", "aaaa", "]")}, {"test", list("-f", "/d/f")},
		{"cat", list("-")}, {"cat", list("-", "v")}, {"cat", list("/d/f")}, {"cat", list("/f", "-")}, {"head", list("-n", "1")}, {"head", list("-n", "99", "/f")}, {"tail", list("-n", "1")}, {"tail", list("/f", "/x")}, {"wc", list("-l", "/f")}, {"sort", list("-u")}, {"sort", list("-rn", "/d/f")}, {"uniq", list("/f")}, {"rev", nil},
		{"cut", list("-d", "z", "-f", "11")}, {"cut", list("-d", "a", "-f", "01", "/f")}, {"tr", list("xx", "yy")}, {"tr", list("aa", "bb")}, {"tr", list("-d", "xx")}, {"tr", list("", "")},
		{"rm", list("/f")}, {"rm", list("-rf", "/d", "/none")}, {"rm", list("/d", "/none")}, {"mkdir", list("/aa", "/bb", "/bb")}, {"mkdir", list("-p", "/aa/bb/cc", "/d/e")}, {"mkdir", list("/d/new", "dd/new")}, {"touch", list("/aa", "bb", "/f")}, {"touch", list("/d/new", "/d/e")},
		{"seq", list("10", "12")}, {"basename", list("aaaa")}, {"basename", list("/aaaa/bbbb/")}, {"dirname", list("/aaaa/bbbb")}, {"dirname", list("//")}, {"dirname", list("aaaa")}, {"expr", list("aaaa", "=", "aaaa")}, {"expr", list("100", "+", "1000")}, {"expr", list("10", "/", "00")},
		{"echo", list(strings.Repeat("x", 70000))}, {"basename", list("aa", "bb")},
	}
	for _, name := range all() {
		l = append(l, call{name, nil}, call{name, list("/f", "/d/f")}, call{name, list("--", "/f")})
	}
	return l
}

// TestMemory: P12.3, what is handed in is not changed, and no answer shares its memory, nor another answer's.
func TestMemory(t *testing.T) {
	for _, c := range calls() {
		for _, text := range list("aa:bb\ncc\n", "zz", "") {
			nodes, in, args := given(), strings.Clone(text), make([]string, 0, len(c.args)+4)
			for _, a := range c.args {
				args = append(args, strings.Clone(a))
			}
			what := fmt.Sprintf("%s %.60q", c.name, c.args)
			one, e := Run(c.name, args, in, nodes)
			two, f := Run(c.name, args, in, nodes)
			apart(t, what, slices.Concat(paths(nodes), args, list(in)), paths(one.Tree), list(one.Out), paths(two.Tree), list(two.Out))
			told := shape(two)
			if shape(one) != told || e != f {
				t.Errorf("P3: %s: %.300s, then %.300s", what, shape(one), told)
			}
			for i := range one.Tree {
				one.Tree[i] = leaf("#", "#")
			}
			_ = append(one.Tree, leaf("#", "#"))
			if shape(two) != told || shape(Done{Tree: nodes}) != shape(Done{Tree: small()}) || in != text || !slices.Equal(args, c.args) {
				t.Errorf("P12.3: %s changed what it was given, or another answer", what)
			}
			if nodes[:len(nodes)+1][len(nodes)] != (api.Node{}) || args[:len(args)+1][len(args)] != "" {
				t.Errorf("P12.3: %s wrote behind what it was given", what)
			}
		}
	}
	one, two := Names(), Names()
	apart(t, "Names", one, two)
	one[0] = "#"
	if !slices.Equal(Names(), all()) || !slices.Equal(two, all()) || Known("#") || !Known(":") {
		t.Error("P12.3: Names' answers are one")
	}
}

// TestKept: P12.3, P3: an answer hangs on what is handed in now, not on what was ahead, nor on other goroutines.
func TestKept(t *testing.T) {
	args, nodes := list("/f"), []api.Node{leaf("/f", "x")}
	first, _ := Run("cat", args, "", nodes)
	nodes[0].Data, args[0] = "y", "f"
	second, _ := Run("cat", args, "", nodes)
	nodes[0] = dir("/f")
	if first.Out != "x" || first.Tree[0].Data != "x" || second.Out != "y" || second.Tree[0] != leaf("/f", "y") {
		t.Error("P12.3: what was handed in is kept:", shape(first), shape(second))
	}
	var want []string
	for _, c := range calls() {
		d, e := Run(c.name, c.args, "b\na\n", small())
		want = append(want, fmt.Sprint(shape(d), e))
	}
	shared := small()
	var workers sync.WaitGroup
	for range 8 {
		workers.Go(func() {
			for i, c := range calls() {
				d, e := Run(c.name, c.args, "b\na\n", shared)
				if fmt.Sprint(shape(d), e) != want[i] || len(Names()) != 23 || !Known("expr") {
					t.Errorf("P3: %s %.60q hangs on other goroutines", c.name, c.args)
				}
			}
		})
	}
	workers.Wait()
}

// TestLarge: P1, what is large ends soon.
func TestLarge(t *testing.T) {
	from := time.Now()
	ends := func(name string, args []string, in string, l []api.Node, out string, status int, errno api.Errno) {
		t.Helper()
		d, e := Run(name, args, in, l)
		if d.Out != out || d.Status != status || e != errno || len(d.Tree) != len(l) {
			t.Errorf("P12.1: %s, large: %.60q, %d, %d, want %.60q, %d, %d", name, d.Out, d.Status, e, out, status, errno)
		}
	}
	many, deep := strings.Repeat("a b\n", 1<<20), strings.Repeat("/a", 1<<20)
	ends("cat", nil, many, small(), "", 1, api.ErrFull)
	ends("sort", list("-u"), many, nil, "a b\n", 0, api.OK)
	ends("uniq", list("-"), many, nil, "a b\n", 0, api.OK)
	ends("wc", nil, many, nil, "1048576 2097152 4194304\n", 0, api.OK)
	ends("tail", list("-n", "1"), many, nil, "a b\n", 0, api.OK)
	ends("tr", list("-d", "a-z \\n"), many, nil, "", 0, api.OK)
	ends("cut", list("-d", " ", "-f", "2"), many, nil, "", 1, api.ErrFull)
	ends("rev", nil, many, nil, "", 1, api.ErrFull)
	words := slices.Repeat(list("-r"), 1<<20)
	ends("sort", words, "b\na\n", nil, "b\na\n", 0, api.OK)
	ends("rm", words, "", small(), "", 0, api.OK)
	ends("echo", words, "", small(), "", 1, api.ErrFull)
	ends("cat", slices.Repeat(list("-"), 1<<20), "a", small(), "a", 0, api.OK)
	ends("mkdir", slices.Repeat(list("-p"), 1<<20), "", small(), "", 2, api.OK)
	ends("head", list("-n", strings.Repeat("0", 1<<22)), many, nil, "", 2, api.OK)
	ends("sort", list("-"+strings.Repeat("run", 1<<20)+"x"), many, nil, "", 2, api.OK)
	ends("mkdir", list("-p", deep), "", small(), "", 1, api.ErrFull)
	ends("mkdir", list("-p", "/f"+deep), "", small(), "", 1, api.OK)
	ends("mkdir", list(deep), "", small(), "", 1, api.OK)
	ends("mkdir", list("-p", deep+strings.Repeat("/..", 1<<20)), "", small(), "", 0, api.OK)
	ends("touch", list(deep), "", small(), "", 1, api.OK)
	ends("basename", list(deep+strings.Repeat("/", 1<<22)), "", small(), "a\n", 0, api.OK)
	ends("dirname", list(strings.Repeat("/", 1<<22)+"a"), "", small(), "/\n", 0, api.OK)
	ends("dirname", list(deep), "", small(), "", 1, api.ErrFull)
	long := strings.Repeat("0", 1<<22)
	ends("expr", list(long+"5", "/", long+"2"), "", nil, "2\n", 0, api.OK)
	ends("expr", list(long+"a", "<", long+"b"), "", nil, "1\n", 0, api.OK)
	ends("seq", list(long+"2"), "", nil, "1\n2\n", 0, api.OK)
	ends("cat", slices.Repeat(list("/f255"), 1<<10), "", full(256), "", 1, api.OK)
	huge := make([]api.Node, 1<<20)
	if _, e := Run("cat", nil, "", huge); e != api.ErrState {
		t.Error("P12.1: many nodes:", e)
	}
	if d := time.Since(from); d > 10*time.Second {
		t.Error("P1: what is large takes", d)
	}
}
