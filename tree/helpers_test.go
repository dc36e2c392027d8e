package tree

import (
	"fmt"
	"slices"
	"strings"
	"testing"

	"cowrie/api"
)

func dir(path string) api.Node        { return api.Node{Path: path, Dir: true} }
func leaf(path, data string) api.Node { return api.Node{Path: path, Data: data} }

// shape tells a tree so that no two are told alike; nil and empty lists are one.
func shape(t []api.Node) string {
	var l []string
	for _, n := range t {
		l = append(l, fmt.Sprintf("%q %t %q", n.Path, n.Dir, n.Data))
	}
	return strings.Join(l, "; ")
}

// spans: every text of those octets that is at most so long.
func spans(octets string, most int) []string {
	all := []string{""}
	last := all
	for range most {
		var next []string
		for _, s := range last {
			for i := range len(octets) {
				next = append(next, s+octets[i:i+1])
			}
		}
		all = append(all, next...)
		last = next
	}
	return all
}

// slowPath: a path by the document's words.
func slowPath(s string) (string, api.Errno) {
	if s == "" || strings.Contains(s, "\x00") {
		return "", api.ErrName
	}
	var l []string
	for _, part := range strings.Split(s, "/") {
		switch {
		case part == "" || part == ".":
		case part != "..":
			l = append(l, part)
		case len(l) > 0:
			l = l[:len(l)-1]
		}
	}
	return "/" + strings.Join(l, "/"), api.OK
}

// slowHome: the directory of a path that is told.
func slowHome(p string) string {
	l := strings.Split(p, "/")
	return "/" + strings.Join(l[1:len(l)-1], "/")
}

// slowKind: what stands at a path that is told, in any nodes; / is a directory.
func slowKind(t []api.Node, p string) int {
	if p == "/" {
		return 2
	}
	for _, n := range t {
		if n.Path == p && n.Dir {
			return 2
		}
		if n.Path == p {
			return 1
		}
	}
	return 0
}

// slowCheck: is it a tree, by the document's words?
func slowCheck(t []api.Node) api.Errno {
	all := 0
	for i, n := range t {
		p, e := slowPath(n.Path)
		if e != api.OK || p != n.Path || p == "/" || slowKind(t, slowHome(p)) != 2 || n.Dir && n.Data != "" {
			return api.ErrState
		}
		for _, other := range t[i+1:] {
			if other.Path <= p {
				return api.ErrState
			}
		}
		all += len(n.Data)
	}
	if len(t) > 256 || all > 65536 {
		return api.ErrState
	}
	return api.OK
}

// slowStart: Check's error, then the path's.
func slowStart(t []api.Node, path string) (string, api.Errno) {
	if e := slowCheck(t); e != api.OK {
		return "", e
	}
	return slowPath(path)
}

// slowSet: the tree with that node in place of the one at its path; the errors of its directory and of what is too much go ahead.
func slowSet(t []api.Node, n api.Node) ([]api.Node, api.Errno) {
	switch slowKind(t, slowHome(n.Path)) {
	case 0:
		return nil, api.ErrNone
	case 1:
		return nil, api.ErrNotDir
	}
	l := []api.Node{n}
	for _, other := range t {
		if other.Path != n.Path {
			l = append(l, other)
		}
	}
	slices.SortFunc(l, func(a, b api.Node) int { return strings.Compare(a.Path, b.Path) })
	if slowCheck(l) != api.OK {
		return nil, api.ErrFull
	}
	return l, api.OK
}

func slowGet(t []api.Node, path string) (string, api.Errno) {
	p, e := slowStart(t, path)
	if e != api.OK {
		return "", e
	}
	switch slowKind(t, p) {
	case 0:
		return "", api.ErrNone
	case 2:
		return "", api.ErrDir
	}
	for _, n := range t {
		if n.Path == p {
			return n.Data, api.OK
		}
	}
	return "", -1
}

func slowPut(t []api.Node, path, data string) ([]api.Node, api.Errno) {
	p, e := slowStart(t, path)
	if e != api.OK {
		return nil, e
	}
	if slowKind(t, p) == 2 {
		return nil, api.ErrDir
	}
	return slowSet(t, leaf(p, data))
}

func slowAdd(t []api.Node, path, data string) ([]api.Node, api.Errno) {
	old, _ := slowGet(t, path)
	return slowPut(t, path, old+data)
}

func slowMkdir(t []api.Node, path string) ([]api.Node, api.Errno) {
	p, e := slowStart(t, path)
	if e != api.OK {
		return nil, e
	}
	if slowKind(t, p) != 0 {
		return nil, api.ErrExist
	}
	return slowSet(t, dir(p))
}

func slowRemove(t []api.Node, path string, all bool) ([]api.Node, api.Errno) {
	p, e := slowStart(t, path)
	if e != api.OK {
		return nil, e
	}
	kind := slowKind(t, p)
	if kind == 0 {
		return nil, api.ErrNone
	}
	if p == "/" || kind == 2 && !all {
		return nil, api.ErrDir
	}
	var l []api.Node
	for _, n := range t {
		if !strings.HasPrefix(n.Path+"/", p+"/") {
			l = append(l, n)
		}
	}
	return l, api.OK
}

func slowList(t []api.Node, path string) ([]string, api.Errno) {
	p, e := slowStart(t, path)
	if e != api.OK {
		return nil, e
	}
	switch slowKind(t, p) {
	case 0:
		return nil, api.ErrNone
	case 1:
		return nil, api.ErrNotDir
	}
	var l []string
	for _, n := range t {
		if slowHome(n.Path) == p {
			cut := strings.Split(n.Path, "/")
			l = append(l, cut[len(cut)-1])
		}
	}
	slices.Sort(l)
	return l, api.OK
}

// asks holds all calls of a tree and a path against the slow ones.
func asks(t *testing.T, nodes []api.Node, path, data string) {
	t.Helper()
	what := fmt.Sprintf("(%.90s, %.60q, %.20q)", shape(nodes), path, data)
	s, e := Get(nodes, path)
	if w, f := slowGet(nodes, path); s != w || e != f {
		t.Errorf("P7.1: Get%s: %.40q, %d, want %.40q, %d", what, s, e, w, f)
	}
	trees := func(promise, name string, l []api.Node, e api.Errno, w []api.Node, f api.Errno) {
		t.Helper()
		if shape(l) != shape(w) || e != f {
			t.Errorf("%s: %s%s: %.90s, %d, want %.90s, %d", promise, name, what, shape(l), e, shape(w), f)
		}
		if e == api.OK && slowCheck(l) != api.OK {
			t.Errorf("%s: %s%s: no tree: %.90s", promise, name, what, shape(l))
		}
	}
	l, e := Put(nodes, path, data)
	w, f := slowPut(nodes, path, data)
	trees("P7.1", "Put", l, e, w, f)
	l, e = Add(nodes, path, data)
	w, f = slowAdd(nodes, path, data)
	trees("P7.1", "Add", l, e, w, f)
	l, e = Mkdir(nodes, path)
	w, f = slowMkdir(nodes, path)
	trees("P7.1", "Mkdir", l, e, w, f)
	for _, all := range []bool{false, true} {
		l, e = Remove(nodes, path, all)
		w, f = slowRemove(nodes, path, all)
		trees("P7.2", fmt.Sprint("Remove ", all), l, e, w, f)
	}
	list, e := List(nodes, path)
	if w, f := slowList(nodes, path); !slices.Equal(list, w) || e != f {
		t.Errorf("P7.2: List%s: %q, %d, want %q, %d", what, list, e, w, f)
	}
	want := 0
	if p, e := slowStart(nodes, path); e == api.OK {
		want = slowKind(nodes, p)
	}
	if kind := Kind(nodes, path); kind != want {
		t.Errorf("P7.2: Kind%s: %d, want %d", what, kind, want)
	}
}
