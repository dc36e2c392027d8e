package tree

import (
	"strings"
	"testing"
	"time"
	"unsafe"

	"cowrie/api"
)

// shares: does a lie in b's memory? Texts of one octet are left out, as Go keeps one of each.
func shares(a, b string) bool {
	if len(a) < 2 || len(b) < 2 {
		return false
	}
	at, from := uintptr(unsafe.Pointer(unsafe.StringData(a))), uintptr(unsafe.Pointer(unsafe.StringData(b)))
	return at >= from && at < from+uintptr(len(b)) || from >= at && from < at+uintptr(len(a))
}

// texts: all texts of a tree.
func texts(t []api.Node) []string {
	var l []string
	for _, n := range t {
		l = append(l, n.Path, n.Data)
	}
	return l
}

// apart asks that no text of one list lies in the memory of one of another list.
func apart(t *testing.T, what string, all ...[]string) {
	t.Helper()
	for i, l := range all {
		for _, other := range all[i+1:] {
			for _, a := range l {
				for _, b := range other {
					if shares(a, b) {
						t.Errorf("P7.4: %s: %q is another one's memory", what, a)
					}
				}
			}
		}
	}
}

// own: the text, in memory of its own.
func own(s string) string { return string([]byte(s)) }

// given is a tree in memory of its own, with room behind in which an answer might be put.
func given() []api.Node {
	l := make([]api.Node, 0, 32)
	for _, n := range []api.Node{dir("/dir"), leaf("/dir/file", "data"), leaf("/file", "more data"), dir("/other")} {
		l = append(l, api.Node{Path: own(n.Path), Dir: n.Dir, Data: own(n.Data)})
	}
	return l
}

// TestMemory: P7.4, what is handed in is not changed, and no answer shares its memory, nor another answer's.
func TestMemory(t *testing.T) {
	for name, do := range map[string]func([]api.Node, string, string) ([]api.Node, api.Errno){
		"Put": Put, "Add": Add,
		"Mkdir":      func(l []api.Node, p, _ string) ([]api.Node, api.Errno) { return Mkdir(l, p) },
		"Remove":     func(l []api.Node, p, _ string) ([]api.Node, api.Errno) { return Remove(l, p, false) },
		"Remove all": func(l []api.Node, p, _ string) ([]api.Node, api.Errno) { return Remove(l, p, true) },
	} {
		for _, p := range []string{"/dir/file", "/dir", "/aaa", "/dir/new", "/zzz", "/file", "/other/new", "/none/new", "/", "\x00"} {
			for _, s := range []string{"", "fresh"} {
				nodes, path, data := given(), own(p), own(s)
				one, e := do(nodes, path, data)
				two, f := do(nodes, path, data)
				apart(t, name+" "+p, append(texts(nodes), path, data), texts(one), texts(two))
				told := shape(two)
				if shape(one) != told || e != f {
					t.Errorf("P3: %s(%q): %s, then %s", name, p, shape(one), told)
				}
				for i := range one {
					one[i] = leaf("#", "#")
				}
				_ = append(one, leaf("#", "#"))
				if shape(nodes) != shape(given()) || shape(two) != told || path != p || data != s {
					t.Errorf("P7.4: %s(%q) changed what it was given, or another answer: %s", name, p, shape(nodes))
				}
				if behind := nodes[:len(nodes)+1][len(nodes)]; behind.Path != "" {
					t.Errorf("P7.4: %s(%q) wrote behind the nodes", name, p)
				}
			}
		}
	}
}

// TestMemoryOfTexts: P7.4, Path, Get and List.
func TestMemoryOfTexts(t *testing.T) {
	for _, s := range []string{"/told/already", "not/told", "/x/../told"} {
		path := own(s)
		one, _ := Path(path)
		two, _ := Path(path)
		apart(t, s, []string{path}, []string{one}, []string{two})
	}
	nodes := given()
	one, _ := Get(nodes, "/file")
	two, _ := Get(nodes, "/file")
	apart(t, "Get", texts(nodes), []string{one}, []string{two})
	list, _ := List(nodes, "/")
	again, _ := List(nodes, "/")
	apart(t, "List", texts(nodes), list, again)
	list[0] = "#"
	if again[0] != "dir" || shape(nodes) != shape(given()) {
		t.Error("P7.4: List's answers are one:", again)
	}
}

// TestLarge: P1, what is large ends soon.
func TestLarge(t *testing.T) {
	from := time.Now()
	deep := strings.Repeat("/a", 1<<20)
	if p, e := Path(deep + strings.Repeat("/..", 1<<20)); p != "/" || e != api.OK {
		t.Errorf("P7.1: a long path: %.20q, %d", p, e)
	}
	if p, e := Path(strings.Repeat("../", 1<<20) + deep); p != deep || e != api.OK {
		t.Errorf("P7.1: a long path: %.20q, %d", p, e)
	}
	if Check([]api.Node{leaf(deep, "")}) != api.ErrState || Kind(nil, deep) != 0 {
		t.Error("P7.1: a deep path")
	}
	huge := make([]api.Node, 1<<20)
	if Check(huge) != api.ErrState || Kind(huge, "/") != 0 {
		t.Error("P7.1: many nodes")
	}
	if l, e := Add(nil, "/f", strings.Repeat("x", 1<<26)); len(l) > 0 || e != api.ErrFull {
		t.Error("P7.1: much Data:", e)
	}
	nodes := many(255, strings.Repeat("x", 256))
	for range 2000 {
		l, e := Put(nodes, "/new", "x")
		if len(l) != 256 || e != api.OK {
			t.Fatal("P7.1: Put:", len(l), e)
		}
	}
	if d := time.Since(from); d > 10*time.Second {
		t.Error("P1: what is large takes", d)
	}
}
