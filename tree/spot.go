package tree

import (
	"iter"
	"sort"
	"strings"

	"cowrie/api"
)

// What may be at a path, as Kind tells it.
const (
	nothing = iota
	file
	directory
)

// spot is a path's place in a tree.
type spot struct {
	path  string // as it is told
	place int    // where its node is, or would be
	kind  int    // of what is there
}

// at finds a path's spot in a tree, and tells do of it; answered is the first error, do's the last.
func at(t []api.Node, path string, do func(spot) api.Errno) api.Errno {
	if e := Check(t); e != api.OK {
		return e
	}
	p, e := Path(path)
	if e != api.OK {
		return e
	}
	return do(spot{path: p, place: where(t, p), kind: kindOf(t, p)})
}

// room: may this spot's node, of so many octets more than now, be in the tree?
func (s spot) room(t []api.Node, more int) api.Errno {
	switch kindOf(t, home(s.path)) {
	case nothing:
		return api.ErrNone
	case file:
		return api.ErrNotDir
	}
	if s.kind == nothing && len(t) >= api.MaxNodes || size(t)+more > api.MaxFile {
		return api.ErrFull
	}
	return api.OK
}

// written: the tree with a file of what is kept of its old Data, and the new one behind it.
func written(t []api.Node, path string, data string, keep func(string) string) (after []api.Node, errno api.Errno) {
	errno = at(t, path, func(s spot) api.Errno {
		if s.kind == directory {
			return api.ErrDir
		}
		old, behind := "", s.place
		if s.kind == file {
			old, behind = t[s.place].Data, s.place+1
		}
		kept := keep(old)
		if e := s.room(t, len(kept)+len(data)-len(old)); e != api.OK {
			return e
		}
		after = joined(t[:s.place], []api.Node{{Path: s.path, Data: kept + data}}, t[behind:])
		return api.OK
	})
	return after, errno
}

// where: the first place of a path that isn't below p, in nodes that are in order.
func where(t []api.Node, p string) int {
	return sort.Search(len(t), func(i int) bool { return t[i].Path >= p })
}

// kindOf: what is at a path, in nodes that are in order; / always is there.
func kindOf(t []api.Node, p string) int {
	i := where(t, p)
	switch {
	case p == "/":
		return directory
	case i == len(t) || t[i].Path != p:
		return nothing
	case t[i].Dir:
		return directory
	}
	return file
}

// home: the directory of a path that is told, and not / .
func home(p string) string {
	return p[:max(1, strings.LastIndexByte(p, '/'))]
}

// told: is it a path as it is told, and not / ?
func told(s string) bool {
	if s == "" || s[0] != '/' || strings.IndexByte(s, 0) >= 0 {
		return false
	}
	for part := range parts(s[1:]) {
		if part == "" || part == "." || part == ".." {
			return false
		}
	}
	return true
}

// parts hands out what stands between the / of a text, empty parts too.
func parts(s string) iter.Seq[string] {
	return func(yield func(string) bool) {
		for {
			part, rest, more := strings.Cut(s, "/")
			if !yield(part) || !more {
				return
			}
			s = rest
		}
	}
}

// names hands out the names in a directory, in the order of the nodes.
// Other nodes may stand between them: /a.b comes ahead of /a/c.
func names(t []api.Node, dir string) iter.Seq[string] {
	return func(yield func(string) bool) {
		for _, n := range t {
			if home(n.Path) == dir && !yield(n.Path[strings.LastIndexByte(n.Path, '/')+1:]) {
				return
			}
		}
	}
}

// size: how many octets of Data there are in all.
func size(t []api.Node) int {
	sum := 0
	for _, n := range t {
		sum += len(n.Data)
	}
	return sum
}

// joined: a tree of those nodes, one list behind the other, of new memory.
func joined(lists ...[]api.Node) []api.Node {
	var l []api.Node
	for _, nodes := range lists {
		for _, n := range nodes {
			l = append(l, copied(n))
		}
	}
	return l
}

// copied: the node, of new memory.
func copied(n api.Node) api.Node {
	return api.Node{Path: strings.Clone(n.Path), Dir: n.Dir, Data: strings.Clone(n.Data)}
}
