package utils

import (
	"strings"

	"cowrie/api"
	"cowrie/tree"
)

// What may be at a path, as tree.Kind tells it.
const (
	nothing   = 0
	directory = 2
)

// changer takes a utility's options, and answers what it makes of the tree at a word.
func (j *job) changer(name string) func(word string) ([]api.Node, api.Errno) {
	switch name {
	case "rm":
		return j.remover()
	case "mkdir":
		return j.maker()
	}
	must(len(j.left) > 0)
	return func(word string) ([]api.Node, api.Errno) {
		if tree.Kind(j.Tree, word) != nothing {
			return j.Tree, api.OK
		}
		return tree.Put(j.Tree, word, "")
	}
}

// remover: what rm makes of the tree.
func (j *job) remover() func(word string) ([]api.Node, api.Errno) {
	letters := j.letters("fr")
	all, force := strings.Contains(letters, "r"), strings.Contains(letters, "f")
	return func(word string) ([]api.Node, api.Errno) {
		after, e := tree.Remove(j.Tree, word, all)
		if e == api.ErrNone && force {
			return j.Tree, api.OK
		}
		return after, e
	}
}

// maker: what mkdir makes of the tree.
func (j *job) maker() func(word string) ([]api.Node, api.Errno) {
	parents := j.letters("p") != ""
	must(len(j.left) > 0)
	return func(word string) ([]api.Node, api.Errno) {
		if parents {
			return withParents(j.Tree, word)
		}
		return tree.Mkdir(j.Tree, word)
	}
}

// withParents: the tree with a directory at that path, and at all its beginnings.
func withParents(t []api.Node, word string) ([]api.Node, api.Errno) {
	path, e := tree.Path(word)
	if e != api.OK {
		return nil, e
	}
	for end := 1; end <= len(path); end++ {
		if end < len(path) && path[end] != '/' || tree.Kind(t, path[:end]) == directory {
			continue
		}
		// One that can't be made is a file: nor can anything be made beneath it.
		if t, e = tree.Mkdir(t, path[:end]); e != api.OK {
			return nil, e
		}
	}
	return t, api.OK
}

// each changes the tree at all words that are left, one by one.
func (j *job) each(change func(word string) ([]api.Node, api.Errno)) {
	for _, word := range j.left {
		after, e := change(word)
		fits(e != api.ErrFull)
		if e != api.OK {
			j.Status = failed
			continue
		}
		j.Tree = after
	}
}
