package utils

import (
	"math/rand"
	"slices"
	"strings"
	"testing"

	"cowrie/api"
	"cowrie/tree"
)

// TestNames: P12.2, all, in order; nothing else is known.
func TestNames(t *testing.T) {
	if !slices.Equal(Names(), all()) {
		t.Errorf("P12.2: Names: %q", Names())
	}
	for _, name := range all() {
		if !Known(name) {
			t.Errorf("P12.2: Known(%q)", name)
		}
		for _, s := range list(name+" ", " "+name, name+"\x00", name+name, "/"+name, strings.ToUpper(name)+"x", name+"\n") {
			if Known(s) {
				t.Errorf("P12.2: Known(%q)", s)
			}
		}
	}
	for _, name := range list("", " ", "]", "[[", "exit", "eval", "set", "shift", "unset", "read", "return", "break", "continue", "local", "sed", "awk", "grep", "ls", "cp", "mv", "tee", "Cat", "ECHO", ": true", "true false") {
		d, e := Run(name, nil, "in", small())
		if Known(name) || e != api.ErrName || shape(d) != shape(Done{}) {
			t.Errorf("P12.1: %q is none: %s, %d", name, shape(d), e)
		}
	}
}

// holds Run against what is wanted, in a tree.
func holds(t *testing.T, name string, args []string, in string, l []api.Node, want Done, errno api.Errno) {
	t.Helper()
	d, e := Run(name, args, in, l)
	if shape(d) != shape(want) || e != errno {
		t.Errorf("P12.1: %s %.300q of %.100q: %.600s, %d, want %.600s, %d", name, args, in, shape(d), e, shape(want), errno)
	}
}

// told holds what a utility tells in small() of the input "one two\nthree\n", which leaves the tree as it was.
func told(t *testing.T, line string, args []string, out string, status int, read bool) {
	t.Helper()
	holds(t, line, args, "one two\nthree\n", small(), Done{Out: out, Status: status, Tree: small(), Read: read}, api.OK)
}

// misuses: of such arguments a utility tells its usage.
func misuses(t *testing.T, name string, all ...[]string) {
	t.Helper()
	for _, args := range all {
		told(t, name, args, "", 2, false)
	}
}

// TestErrors: P12.1, ErrName ahead of tree.Check's error, and that ahead of all that is asked.
func TestErrors(t *testing.T) {
	for _, bad := range [][]api.Node{{leaf("/b", ""), leaf("/a", "")}, {leaf("f", "x")}, {leaf("/d/f", "")}, {{Path: "/d", Dir: true, Data: "x"}}, {leaf("/f", strings.Repeat("x", 65537))}, full(257), {{}}} {
		for _, name := range append(all(), "", "none", "ls") {
			want := api.ErrState
			if !slices.Contains(all(), name) {
				want = api.ErrName
			}
			for _, args := range [][]string{nil, list("a"), list("-x"), list("1", "+", "2"), list(strings.Repeat("x", 65537))} {
				holds(t, name, args, "in", bad, Done{}, want)
			}
		}
	}
	told(t, "echo", list("a"), "a\n", 0, false)
	holds(t, "echo", list("a"), "", full(256), Done{Out: "a\n", Tree: full(256)}, api.OK)
	holds(t, "echo", nil, "", nil, Done{Out: "\n"}, api.OK)
	holds(t, "echo", nil, "", []api.Node{}, Done{Out: "\n"}, api.OK)
}

// TestTell: P12.1, those that tell something of their words alone.
func TestTell(t *testing.T) {
	for _, args := range [][]string{nil, list("a"), list("-x", "--"), list("", "b")} {
		told(t, ":", args, "", 0, false)
		told(t, "true", args, "", 0, false)
		told(t, "false", args, "", 1, false)
	}
	told(t, "echo", nil, "\n", 0, false)
	told(t, "echo", list("a", "b"), "a b\n", 0, false)
	told(t, "echo", list("-n", "a", "-"), "a -", 0, false)
	told(t, "echo", list("-x", "-e", `\n`), `-x -e \n`+"\n", 0, false)
	told(t, "printf", list("%s-%s\n", "a", "b", "c"), "a-b\nc-\n", 0, false)
	told(t, "printf", list("a"), "a", 0, false)
	told(t, "printf", list(""), "", 0, false)
	told(t, "printf", list("-n"), "-n", 0, false)
	told(t, "printf", list("%d,", "x", "5"), "0,5,", 1, false)
	told(t, "printf", list("ab%", "x"), "ab", 1, false)
	misuses(t, "printf", nil)
	for _, c := range []struct {
		args   []string
		status int
	}{
		{nil, 1}, {list("a"), 0}, {list(""), 1}, {list("3", "-lt", "5"), 0}, {list("-f", "f"), 0}, {list("-d", "/f"), 1}, {list("-s", "/v"), 1}, {list("-e", "d/e"), 0}, {list("a", "b"), 2}, {list("x", "-eq", "1"), 2}, {list("!", "a", "=", "b"), 0}, {list("a", "b", "c", "d", "e"), 2}, {list("]"), 0},
	} {
		told(t, "test", c.args, "", c.status, false)
		told(t, "[", append(slices.Clone(c.args), "]"), "", c.status, false)
	}
	told(t, "test", list("a", "]"), "", 2, false)
	misuses(t, "[", nil, list("a"), list("]", "a"), list("]]"), list("] "), list(""), list("a", "=", "a"), list("[", "a"))
}

// TestTexts: P12.1, texts of words: files, the input once, what is refused; what options are.
func TestTexts(t *testing.T) {
	const in = "one two\nthree\n"
	for _, c := range []struct {
		args   []string
		out    string
		status int
		read   bool
	}{
		{nil, in, 0, true}, {list(), in, 0, true}, {list("-"), in, 0, true}, {list("-", "-"), in, 0, true}, {list("f", "-", "d/f", "-", "f"), "b\na\nb\n" + in + "x:y z\nlast" + "b\na\nb\n", 0, true},
		{list("f"), "b\na\nb\n", 0, false}, {list("/f", "//d/./f"), "b\na\nb\nx:y z\nlast", 0, false}, {list("d/f", "f"), "x:y z\nlastb\na\nb\n", 0, false}, {list("v"), "", 0, false}, {list("v", "f", "v"), "b\na\nb\n", 0, false}, {list("f", "f"), "b\na\nb\nb\na\nb\n", 0, false},
		// refused: nothing, a directory, no path
		{list("x"), "", 1, false}, {list("d"), "", 1, false}, {list("/"), "", 1, false}, {list(""), "", 1, false}, {list("f\x00"), "", 1, false}, {list("f/x"), "", 1, false}, {list("x", "f"), "b\na\nb\n", 1, false}, {list("f", "x"), "b\na\nb\n", 1, false}, {list("f", "d", "-"), "b\na\nb\n" + in, 1, true}, {list("x", "y", "v"), "", 1, false},
		// an option behind another word is none, nor is - or what another sign begins
		{list("f", "-n"), "b\na\nb\ndash\n", 0, false}, {list("-", "-n"), in + "dash\n", 0, true}, {list("./-n"), "dash\n", 0, false}, {list("/-n"), "dash\n", 0, false}, {list("/-"), "", 1, false}, {list("f", "--"), "b\na\nb\n", 1, false}, {list("", "-n"), "dash\n", 1, false}, {list("+n"), "", 1, false},
	} {
		told(t, "cat", c.args, c.out, c.status, c.read)
	}
	for _, name := range list("cat", "head", "tail", "wc", "sort", "uniq", "rev", "touch", "rm", "mkdir") {
		misuses(t, name, list("--"), list("--", "f"), list("-x"), list("-é", "f"), list("-1"), list("-\x00"), list("- "), list("--help"), list("-\xff"))
	}
	misuses(t, "cat", list("-n"), list("-n", "f"), list("-u"))
	misuses(t, "uniq", list("-c"), list("-d", "f"))
	misuses(t, "rev", list("-r"), list("-n", "f"))
	told(t, "uniq", nil, in, 0, true)
	told(t, "uniq", list("f", "f", "x"), "b\na\nb\na\nb\n", 1, false)
	told(t, "rev", nil, "owt eno\neerht\n", 0, true)
	told(t, "rev", list("d/f", "x"), "z y:x\ntsal\n", 1, false)
	holds(t, "cat", list("-"), "a\x00\xff", nil, Done{Out: "a\x00\xff", Read: true}, api.OK)
	holds(t, "cat", nil, "", nil, Done{Read: true}, api.OK)
}

// TestHeadAndTail: P12.1, of the texts as one, ten lines or as many as are asked for.
func TestHeadAndTail(t *testing.T) {
	told(t, "head", list("-n", "1"), "one two\n", 0, true)
	told(t, "tail", list("-n", "1"), "three\n", 0, true)
	told(t, "head", list("-n", "4", "f", "d/f"), "b\na\nb\nx:y z\n", 0, false)
	told(t, "tail", list("-n", "3", "f", "-"), "b\none two\nthree\n", 0, true)
	told(t, "tail", list("-n", "2", "d/f", "f", "x"), "a\nb\n", 1, false)
	told(t, "head", list("-n", "0"), "", 0, true)
	told(t, "head", list("-n", "0", "x"), "", 1, false)
	told(t, "head", list("-n", "000002", "f"), "b\na\n", 0, false)
	told(t, "tail", list("-n", "999999", "f"), "b\na\nb\n", 0, false)
	told(t, "head", list("-n", "1", "-"), "one two\n", 0, true)
	told(t, "head", list("f", "-n", "1"), "b\na\nb\ndash\n", 1, false)
	for _, name := range list("head", "tail") {
		misuses(t, name, list("-n"), list("-n", "f"), list("-n", ""), list("-n", "-1"), list("-n", "+1"), list("-n", " 1"), list("-n", "1 "), list("-n", "0x1"), list("-n", "1a"), list("-n", "0000001"), list("-n", "1000000"), list("-n1"), list("-1"), list("-n1", "f"), list("-n", "1", "-n", "2"), list("-n", "1", "-x"), list("-c", "1"), list("-q", "f"), list("-x", "-n", "1"), list("-nn", "1"), list("-n", "1.5"))
	}
	in := ""
	for _, c := range "abcdefghijkl" {
		in += string(c) + "\n"
	}
	holds(t, "head", nil, in, nil, Done{Out: in[:20], Read: true}, api.OK)
	holds(t, "tail", nil, in, nil, Done{Out: in[4:], Read: true}, api.OK)
	holds(t, "tail", list("-"), in+"m", nil, Done{Out: in[6:] + "m", Read: true}, api.OK)
	holds(t, "head", list("-n", "11"), in, nil, Done{Out: in[:22], Read: true}, api.OK)
}

// TestCounted: P12.1, wc.
func TestCounted(t *testing.T) {
	told(t, "wc", nil, "2 3 14\n", 0, true)
	told(t, "wc", list("-l"), "2\n", 0, true)
	told(t, "wc", list("-w"), "3\n", 0, true)
	told(t, "wc", list("-c"), "14\n", 0, true)
	told(t, "wc", list("-l", "f", "d/f"), "4\n", 0, false)
	told(t, "wc", list("f", "d/f", "-"), "6 8 30\n", 0, true) // last and one are one word
	told(t, "wc", list("x"), "0 0 0\n", 1, false)
	told(t, "wc", list("-c", "x", "f"), "6\n", 1, false)
	told(t, "wc", list("v"), "0 0 0\n", 0, false)
	told(t, "wc", list("f", "-l"), "3 3 6\n", 1, false)
	misuses(t, "wc", list("-lw"), list("-l", "-w"), list("-ll"), list("-l", "-l"), list("-lwc"), list("-m"), list("-L"), list("-lx"), list("-l", "-x"), list("--lines"))
}

// TestSorted: P12.1, sort.
func TestSorted(t *testing.T) {
	const in = "10\n9\n10\n-1\nb\n"
	for _, c := range []struct {
		args []string
		out  string
	}{
		{nil, "-1\n10\n10\n9\nb\n"}, {list("-r"), "b\n9\n10\n10\n-1\n"}, {list("-u"), "-1\n10\n9\nb\n"}, {list("-n"), "-1\nb\n9\n10\n10\n"},
		{list("-rn"), "10\n10\n9\nb\n-1\n"}, {list("-n", "-r"), "10\n10\n9\nb\n-1\n"}, {list("-nru"), "10\n9\nb\n-1\n"}, {list("-u", "-n"), "-1\nb\n9\n10\n"}, {list("-rr", "-ur", "-r"), "b\n9\n10\n-1\n"}, {list("-u", "-"), "-1\n10\n9\nb\n"}, {list("-"), "-1\n10\n10\n9\nb\n"},
	} {
		holds(t, "sort", c.args, in, nil, Done{Out: c.out, Read: true}, api.OK)
	}
	told(t, "sort", list("f", "d/f"), "a\nb\nb\nlast\nx:y z\n", 0, false)
	told(t, "sort", list("-u", "f", "x", "-"), "a\nb\none two\nthree\n", 1, true)
	told(t, "sort", list("f", "-n"), "a\nb\nb\ndash\n", 0, false)
	misuses(t, "sort", list("-x"), list("-nx"), list("-xn"), list("-nxr"), list("-r", "-x"), list("-r", "--"), list("-n-r"), list("-k", "1"), list("-R"), list("-o", "f"))
}

// TestSets: P12.1, tr.
func TestSets(t *testing.T) {
	told(t, "tr", list("a-z", "A-Z"), "ONE TWO\nTHREE\n", 0, true)
	told(t, "tr", list(`\n`, ","), "one two,three,", 0, true)
	told(t, "tr", list("-d", "aeiou"), "n tw\nthr\n", 0, true)
	told(t, "tr", list("-d", `\n `), "onetwothree", 0, true)
	told(t, "tr", list("-d", "-d"), "one two\nthree\n", 0, true)
	told(t, "tr", list("", ""), "one two\nthree\n", 0, true)
	told(t, "tr", list("-d", ""), "one two\nthree\n", 0, true)
	told(t, "tr", list("e", "-d"), "on- two\nthr--\n", 0, true)
	told(t, "tr", list("-o", "x"), "xne twx\nthree\n", 0, true)
	told(t, "tr", list("-", "x"), "one two\nthree\n", 0, true)
	holds(t, "tr", list("-", "x"), "a-b-", nil, Done{Out: "axbx", Read: true}, api.OK)
	holds(t, "tr", list("a", "b"), "", nil, Done{Read: true}, api.OK)
	misuses(t, "tr", nil, list("a"), list("-d"), list("a", "b", "c"), list("-d", "a", "b"), list("-d", "c-a"), list("c-a", "x"), list("a", "c-a"), list("a", ""), list("a-z", "A-Z", "f"), list("-s", "a", "b"), list(""), list("-"), list("-x"))
}

// TestCut: P12.1, -d and its octet, -f and its number, in that order alone.
func TestCut(t *testing.T) {
	told(t, "cut", list("-d", ":", "-f", "2", "d/f"), "y z\nlast\n", 0, false)
	told(t, "cut", list("-d", " ", "-f", "1"), "one\nthree\n", 0, true)
	told(t, "cut", list("-d", " ", "-f", "2", "-", "d/f", "x"), "two\nthree\nz\nlast\n", 1, true)
	told(t, "cut", list("-d", "e", "-f", "000003"), "\n\n", 0, true)
	told(t, "cut", list("-d", "t", "-f", "999999"), "\n\n", 0, true)
	told(t, "cut", list("-d", "-", "-f", "1", "f", "-n"), "b\na\nb\ndash\n", 0, false)
	holds(t, "cut", list("-d", "\xff", "-f", "2"), "a\xffb\xffc", nil, Done{Out: "b\n", Read: true}, api.OK)
	holds(t, "cut", list("-d", "\x00", "-f", "2"), "a\x00b", nil, Done{Out: "b\n", Read: true}, api.OK)
	holds(t, "cut", list("-d", "-", "-f", "2"), "a-b", nil, Done{Out: "b\n", Read: true}, api.OK)
	misuses(t, "cut", nil, list("f"), list("-d"), list("-d", ":"), list("-d", ":", "-f"), list("-f", "1"), list("-f", "1", "-d", ":"), list("-f", "1", "f"), list("-d", "", "-f", "1"), list("-d", "::", "-f", "1"), list("-d", "é", "-f", "1"), list("-d:", "-f", "1"), list("-d", ":", "-f1"), list("-d:", "-f1"))
	misuses(t, "cut", list("-d", ":", "-f", "0"), list("-d", ":", "-f", "000000"), list("-d", ":", "-f", "-1"), list("-d", ":", "-f", ""), list("-d", ":", "-f", "+1"), list("-d", ":", "-f", "1-2"), list("-d", ":", "-f", "1,2"), list("-d", ":", "-f", "0000001"), list("-d", ":", "-f", "1000000"), list("-d", ":", "-f", "x"), list("-d", ":", "-f", " 1"))
	misuses(t, "cut", list("-d", ":", "-f", "1", "-s"), list("-d", ":", "-f", "1", "--", "f"), list("-s", "-d", ":", "-f", "1"), list("-d", ":", "f", "-f", "1"), list("f", "-d", ":", "-f", "1"), list("-c", "1"), list("-d", ":", "-d", ":", "-f", "1"), list("-d", ":", "-f", "1", "-f", "2"))
}

// changed holds a utility that changes small() against the paths that are there then.
func changed(t *testing.T, name string, args []string, status int, paths string) {
	t.Helper()
	want := Done{Status: status}
	for _, path := range strings.Fields(paths) {
		n := dir(strings.TrimSuffix(path, "/"))
		if n.Path == path {
			data, _ := tree.Get(small(), path)
			n = leaf(path, data)
		}
		want.Tree = append(want.Tree, n)
	}
	holds(t, name, args, "in", small(), want, api.OK)
}

// TestRemoved: P12.1, rm.
func TestRemoved(t *testing.T) {
	const whole = "/-n /d/ /d/e/ /d/f /f /v"
	changed(t, "rm", nil, 0, whole)
	changed(t, "rm", list("-f"), 0, whole)
	changed(t, "rm", list("-rf"), 0, whole)
	changed(t, "rm", list("f"), 0, "/-n /d/ /d/e/ /d/f /v")
	changed(t, "rm", list("f", "d/../v"), 0, "/-n /d/ /d/e/ /d/f")
	changed(t, "rm", list("d"), 1, whole)
	changed(t, "rm", list("-f", "d"), 1, whole)
	changed(t, "rm", list("-r", "d"), 0, "/-n /f /v")
	changed(t, "rm", list("d/e"), 1, whole)
	changed(t, "rm", list("-r", "d/e", "f"), 0, "/-n /d/ /d/f /v")
	changed(t, "rm", list("-fr", "d", "d", "x"), 0, "/-n /f /v")
	changed(t, "rm", list("-f", "-r", "d", "f/x"), 0, "/-n /f /v")
	changed(t, "rm", list("-r", "d", "d/f"), 1, "/-n /f /v")
	changed(t, "rm", list("x"), 1, whole)
	changed(t, "rm", list("-r", "x"), 1, whole)
	changed(t, "rm", list("-f", "x"), 0, whole)
	changed(t, "rm", list("x", "f"), 1, "/-n /d/ /d/e/ /d/f /v")
	changed(t, "rm", list("f", "f"), 1, "/-n /d/ /d/e/ /d/f /v")
	changed(t, "rm", list("-ff", "f", "f", "d"), 1, "/-n /d/ /d/e/ /d/f /v")
	changed(t, "rm", list("-rf", "/"), 1, whole)
	changed(t, "rm", list("-rf", "/d/.."), 1, whole)
	changed(t, "rm", list("-f", ""), 1, whole)
	changed(t, "rm", list("-f", "\x00", "f"), 1, "/-n /d/ /d/e/ /d/f /v")
	changed(t, "rm", list("f", "-n"), 0, "/d/ /d/e/ /d/f /v")
	changed(t, "rm", list("f", "-r"), 1, "/-n /d/ /d/e/ /d/f /v")
	changed(t, "rm", list("-", "f"), 1, "/-n /d/ /d/e/ /d/f /v")
	misuses(t, "rm", list("-n"), list("-i", "f"), list("-rfx", "f"), list("-r", "--", "f"), list("-R", "d"), list("-r", "-x", "f"))
}

// TestMade: P12.1, mkdir.
func TestMade(t *testing.T) {
	const whole = "/-n /d/ /d/e/ /d/f /f /v"
	changed(t, "mkdir", list("a"), 0, "/-n /a/ /d/ /d/e/ /d/f /f /v")
	changed(t, "mkdir", list("d/a", "d/a/b/"), 0, "/-n /d/ /d/a/ /d/a/b/ /d/e/ /d/f /f /v")
	changed(t, "mkdir", list("d"), 1, whole)
	changed(t, "mkdir", list("/"), 1, whole)
	changed(t, "mkdir", list("f", "a"), 1, "/-n /a/ /d/ /d/e/ /d/f /f /v")
	changed(t, "mkdir", list("a", "a"), 1, "/-n /a/ /d/ /d/e/ /d/f /f /v")
	changed(t, "mkdir", list("a/b"), 1, whole)
	changed(t, "mkdir", list("f/a"), 1, whole)
	changed(t, "mkdir", list("", "\x00"), 1, whole)
	changed(t, "mkdir", list("a", "-p", "x/y"), 1, "/-n /-p/ /a/ /d/ /d/e/ /d/f /f /v")
	changed(t, "mkdir", list("-"), 0, "/-/ /-n /d/ /d/e/ /d/f /f /v")
	changed(t, "mkdir", list("-p", "a/b/c"), 0, "/-n /a/ /a/b/ /a/b/c/ /d/ /d/e/ /d/f /f /v")
	changed(t, "mkdir", list("-p", "d/e/a//b/", "d/e"), 0, "/-n /d/ /d/e/ /d/e/a/ /d/e/a/b/ /d/f /f /v")
	changed(t, "mkdir", list("-p", "d", "/", ".", "/d/e"), 0, whole)
	changed(t, "mkdir", list("-p", "a/../b"), 0, "/-n /b/ /d/ /d/e/ /d/f /f /v")
	changed(t, "mkdir", list("-pp", "-p", "a/./b"), 0, "/-n /a/ /a/b/ /d/ /d/e/ /d/f /f /v")
	changed(t, "mkdir", list("-p", "f"), 1, whole)
	changed(t, "mkdir", list("-p", "d/f/x/y", "a/b"), 1, "/-n /a/ /a/b/ /d/ /d/e/ /d/f /f /v")
	changed(t, "mkdir", list("-p", "f/..", "f/../a"), 0, "/-n /a/ /d/ /d/e/ /d/f /f /v")
	changed(t, "mkdir", list("-p", "", "a", "x\x00/y"), 1, "/-n /a/ /d/ /d/e/ /d/f /f /v")
	changed(t, "mkdir", list("-p", "-"), 0, "/-/ /-n /d/ /d/e/ /d/f /f /v")
	misuses(t, "mkdir", nil, list("-p"), list("-pp", "-p"), list("-m", "a"), list("-px", "a"), list("-p", "-x", "a"), list("-p", "--", "a"), list("--parents", "a"), list("-P", "a"))
}

// TestTouched: P12.1, touch.
func TestTouched(t *testing.T) {
	const whole = "/-n /d/ /d/e/ /d/f /f /v"
	changed(t, "touch", list("a"), 0, "/-n /a /d/ /d/e/ /d/f /f /v")
	changed(t, "touch", list("f", "d", "/", "v", "./d//e"), 0, whole)
	changed(t, "touch", list("d/a", "a", "a"), 0, "/-n /a /d/ /d/a /d/e/ /d/f /f /v")
	changed(t, "touch", list("x/y", "a"), 1, "/-n /a /d/ /d/e/ /d/f /f /v")
	changed(t, "touch", list("a", "f/x"), 1, "/-n /a /d/ /d/e/ /d/f /f /v")
	changed(t, "touch", list(""), 1, whole)
	changed(t, "touch", list("a\x00"), 1, whole)
	changed(t, "touch", list("-", "-a"), 0, "/- /-a /-n /d/ /d/e/ /d/f /f /v")
	misuses(t, "touch", nil, list("-a"), list("-n"), list("-c", "f"), list("-n", "a"), list("--", "a"))
}

// TestRow: P12.1, seq.
func TestRow(t *testing.T) {
	told(t, "seq", list("3"), "1\n2\n3\n", 0, false)
	told(t, "seq", list("1"), "1\n", 0, false)
	told(t, "seq", list("0"), "", 0, false)
	told(t, "seq", list("-5"), "", 0, false)
	told(t, "seq", list("2", "4"), "2\n3\n4\n", 0, false)
	told(t, "seq", list("-1", "1"), "-1\n0\n1\n", 0, false)
	told(t, "seq", list("5", "5"), "5\n", 0, false)
	told(t, "seq", list("5", "4"), "", 0, false)
	told(t, "seq", list("9223372036854775807", "-9223372036854775808"), "", 0, false)
	told(t, "seq", list("010", " +11\t"), "10\n11\n", 0, false)
	told(t, "seq", list("18446744073709551618"), "1\n2\n", 0, false)
	told(t, "seq", list("9223372036854775806", "9223372036854775807"), "9223372036854775806\n9223372036854775807\n", 0, false)
	told(t, "seq", list("-9223372036854775808", "-9223372036854775807"), "-9223372036854775808\n-9223372036854775807\n", 0, false)
	told(t, "seq", list("100000", "100001"), "100000\n100001\n", 0, false)
	for _, args := range [][]string{list("4096"), list("-2000", "2095"), list("100000", "104095")} {
		d, e := Run("seq", args, "", nil)
		if lines := strings.Count(d.Out, "\n"); lines != 4096 || d.Status != 0 || e != api.OK {
			t.Errorf("P12.1: seq %q: %d lines, %d, %d", args, lines, d.Status, e)
		}
	}
	misuses(t, "seq", nil, list(""), list("a"), list("1", "b"), list("a", "2"), list("1", "1", "2"), list("1", "2", "3", "4"), list("1.5"), list("0x5"), list("-"), list("--", "3"), list("-s", "3"), list("-w"), list("1 2"))
	misuses(t, "seq", list("4097"), list("0", "4096"), list("-2000", "2096"), list("9223372036854775807"), list("-9223372036854775808", "9223372036854775807"), list("-9223372036854775807", "9223372036854775807"), list("-9223372036854775808", "0"), list("-1", "9223372036854775807"))
}

// TestPaths: P12.1, basename and dirname.
func TestPaths(t *testing.T) {
	for _, c := range [][3]string{
		{"a", ".", "a"}, {"a/b", "a", "b"}, {"/a", "/", "a"}, {"/a/b", "/a", "b"}, {"/a/b/c", "/a/b", "c"}, {"a/", ".", "a"}, {"a/b/", "a", "b"}, {"/a/", "/", "a"}, {"a//", ".", "a"}, {"a//b", "a", "b"}, {"a///b//", "a", "b"}, {"//a", "/", "a"}, {"///a//", "/", "a"}, {"//a//b", "//a", "b"}, {"a/b//c", "a/b", "c"},
		{"/", "/", "/"}, {"//", "/", "/"}, {"////", "/", "/"}, {"", ".", ""}, {".", ".", "."}, {"..", ".", ".."}, {"a/..", "a", ".."}, {"./a", ".", "a"}, {"../", ".", ".."}, {"/.", "/", "."}, {"a.b/c.d", "a.b", "c.d"},
		{"-a", ".", "-a"}, {"-", ".", "-"}, {"--", ".", "--"}, {"-x/-y", "-x", "-y"}, {" ", ".", " "}, {"a b/c d", "a b", "c d"}, {"a\n/\n", "a\n", "\n"}, {"a\x00/b", "a\x00", "b"}, {"\xff/\xfe", "\xff", "\xfe"}, {`a\/b`, `a\`, "b"}, {"/ /", "/", " "},
	} {
		told(t, "dirname", list(c[0]), c[1]+"\n", 0, false)
		told(t, "basename", list(c[0]), c[2]+"\n", 0, false)
	}
	for _, name := range list("basename", "dirname") {
		misuses(t, name, nil, list("a", "b"), list("a/b.c", ".c"), list("-a", "b"), list("--", "a"), list("", ""))
	}
}

// TestComputed: P12.1, expr.
func TestComputed(t *testing.T) {
	const most, least = "9223372036854775807", "-9223372036854775808"
	for _, c := range [][4]string{
		{"1", "+", "2", "3"}, {"1", "-", "2", "-1"}, {"-3", "*", "4", "-12"}, {"7", "/", "2", "3"}, {"-7", "/", "2", "-3"}, {"7", "/", "-2", "-3"}, {"7", "%", "3", "1"}, {"-7", "%", "3", "-1"}, {"7", "%", "-3", "1"}, {"010", "+", "1", "11"}, {" 1\t", "+", "+2", "3"}, {"1", "-", "-1", "2"},
		{"2", "-", "2", "0"}, {"0", "*", "5", "0"}, {"1", "/", "2", "0"}, {"4", "%", "2", "0"}, {"-1", "+", "1", "0"}, {"-0", "+", "0", "0"},
		{most, "+", "1", least}, {least, "-", "1", most}, {least, "/", "-1", least}, {least, "%", "-1", "0"}, {most, "*", "2", "-2"}, {least, "+", "0", least}, {"18446744073709551617", "+", "0", "1"}, {least, "*", least, "0"}, {"4294967296", "*", "4294967296", "0"},
		// numbers by numbers
		{"1", "=", "01", "1"}, {"1", "!=", "01", "0"}, {"10", "<", "9", "0"}, {"10", ">", "9", "1"}, {"9", "<=", "10", "1"}, {"10", "<=", "10", "1"}, {"-1", ">=", "0", "0"}, {"-1", ">=", "-1", "1"}, {" 5", "=", "+5 ", "1"}, {most, "<", least, "0"}, {most, ">", least, "1"}, {"3", ">", "3", "0"}, {"3", "<", "3", "0"}, {"-0", "=", "0", "1"}, {"18446744073709551616", "=", "0", "1"}, {"1", "=", "2", "0"}, {"1", "!=", "2", "1"},
		// else by octets
		{"a", "=", "a", "1"}, {"a", "=", "b", "0"}, {"a", "!=", "b", "1"}, {"a", "!=", "a", "0"}, {"a", "<", "b", "1"}, {"b", "<", "a", "0"}, {"a", "<=", "a", "1"}, {"a", ">", "B", "1"}, {"a", ">=", "b", "0"}, {"10", "<", "9x", "1"}, {"10x", "<", "9", "1"}, {"", "=", "", "1"}, {"", "<", "0", "1"}, {"", "=", "0", "0"}, {"é", ">", "z", "1"}, {"a", "<", "ab", "1"}, {"\xff", ">", "é", "1"}, {"-", "=", "-", "1"}, {"+", "=", "+", "1"}, {"=", "=", "=", "1"}, {"0x1", "=", "1", "0"}, {"1\n", "=", "1", "0"}, {" ", "<", "1", "1"}, {"-x", "!=", "-y", "1"},
	} {
		status := 0
		if c[3] == "0" {
			status = 1
		}
		told(t, "expr", c[:3], c[3]+"\n", status, false)
	}
	misuses(t, "expr", nil, list("1"), list(""), list("1", "+"), list("1", "+", "2", "+"), list("1", "+", "2", "+", "3"), list("(", "1", ")"), list("--", "1", "+", "2"), list("length", "a"), list("1+2"))
	misuses(t, "expr", list("1", "/", "0"), list("1", "%", "0"), list("0", "/", "-0"), list("1", "%", "18446744073709551616"), list("0", "%", "0"))
	misuses(t, "expr", list("a", "+", "1"), list("1", "+", "a"), list("", "+", "1"), list("1", "*", ""), list("1.5", "-", "1"), list("0x1", "*", "2"), list("1", "/", "a"), list("a", "/", "0"), list("- 1", "+", "1"), list("1\n", "+", "1"))
	misuses(t, "expr", list("a", ":", "a"), list("a", "==", "a"), list("1", "&", "1"), list("1", "|", "1"), list("1", "**", "2"), list("1", "<<", "2"), list("1", "", "2"), list("a", "=~", "a"), list("1", " +", "2"), list("1", "=<", "2"), list("1", ",", "2"), list("1", "-eq", "1"), list("1", "&&", "1"), list("1", "^", "1"))
}

// TestFull: P12.1, ErrFull: the status is 1, the tree as it was, and nothing is told.
func TestFull(t *testing.T) {
	filled := func(name string, args []string, in string, l []api.Node) {
		t.Helper()
		holds(t, name, args, in, l, Done{Status: 1, Tree: l}, api.ErrFull)
	}
	most := strings.Repeat("x", 65536)
	one := []api.Node{leaf("/f", most)}
	holds(t, "cat", nil, most, one, Done{Out: most, Tree: one, Read: true}, api.OK)
	holds(t, "cat", list("f"), "x", one, Done{Out: most, Tree: one}, api.OK)
	filled("cat", nil, most+"x", one)
	filled("cat", list("f", "-"), "x", one)
	filled("cat", list("none", "f", "f"), "", one)
	holds(t, "echo", list("-n", most), "", one, Done{Out: most, Tree: one}, api.OK)
	holds(t, "echo", list(most[1:]), "", nil, Done{Out: most[1:] + "\n"}, api.OK)
	filled("echo", list(most), "", one)
	filled("printf", list("%s!", most), "", nil)
	filled("printf", list("%s!%", most), "", nil)
	filled("basename", list(most), "", small())
	filled("dirname", list(most+"/a"), "", small())
	filled("rev", nil, most, nil)
	filled("sort", nil, most, nil)
	filled("tr", list("x", "y"), most+"x", nil)
	filled("seq", list("-9223372036854775808", "-9223372036854772000"), "", small())
	holds(t, "head", list("-n", "1"), "a\n"+most, one, Done{Out: "a\n", Tree: one, Read: true}, api.OK)
	holds(t, "wc", list("-c", "f", "f", "-"), most, one, Done{Out: "196608\n", Tree: one, Read: true}, api.OK)
	holds(t, "tr", list("-d", "x"), most+most, one, Done{Tree: one, Read: true}, api.OK)
	// no room for nodes
	holds(t, "mkdir", list("a"), "", full(255), Done{Tree: append([]api.Node{dir("/a")}, full(255)...)}, api.OK)
	filled("mkdir", list("a"), "", full(256))
	filled("mkdir", list("a", "b"), "", full(255))
	filled("mkdir", list("none/x", "b"), "", full(256))
	filled("mkdir", list("-p", "a/b/c"), "", full(254))
	filled("mkdir", list("-p", "d/a"), "", full(256))
	filled("touch", list("a", "b"), "", full(255))
	filled("touch", list("d/a"), "", full(256))
	holds(t, "touch", list("f000", "d", "none/x"), "", full(256), Done{Status: 1, Tree: full(256)}, api.OK)
	holds(t, "mkdir", list("d", "f000/x", "none/x"), "", full(256), Done{Status: 1, Tree: full(256)}, api.OK)
	holds(t, "mkdir", list("-p", "d", "f000/x/y"), "", full(256), Done{Status: 1, Tree: full(256)}, api.OK)
	holds(t, "rm", list("-r", "d", "none"), "", full(256), Done{Status: 1, Tree: full(256)[1:]}, api.OK)
}

// agrees holds Run against the slow one.
func agrees(t *testing.T, name string, args []string, in string, l []api.Node) {
	t.Helper()
	want, e := slowRun(name, args, in, l)
	holds(t, name, args, in, l, want, e)
}

// TestAll: P12.1, every utility, of all short rows of words of all sorts.
func TestAll(t *testing.T) {
	words := list("", "-", "--", "-n", "-d", "-f", "-p", "-rf", "-lu", "a", "f", "/d/e/g", "1", "07", "+", "<", ":", "]")
	for _, name := range append(all(), "none") {
		for count := range 4 {
			rows(words, count, func(row []string) { agrees(t, name, row, "b:c\n1 2\n1 2", small()) })
		}
	}
	for _, c := range []struct {
		name  string
		words []string
	}{
		{"cut", list("-d", "-f", ":", "1", "0000001", "-")}, {"head", list("-n", "2", "-", "f", "1000000", "-x")}, {"tail", list("-n", "000001", "d/f", "", "-n1")}, {"wc", list("-l", "-w", "-c", "-", "f", "-lw")}, {"sort", list("-r", "-u", "-n", "-run", "d/f", "-x")},
		{"rm", list("-r", "-f", "f", "d", "x", "/")}, {"mkdir", list("-p", "a/b", "a", "f/x", "d", "")}, {"touch", list("a", "a/b", "d", "-x", "f/x")}, {"[", list("[", "]", "!", "a", "=", "")},
	} {
		for count := range 6 {
			rows(c.words, count, func(row []string) { agrees(t, c.name, row, "a:b\n10\n9\n10\n", small()) })
		}
	}
}

// TestComputedAll: P12.1, expr and seq of all sorts of words, by all operators.
func TestComputedAll(t *testing.T) {
	words := list("", "0", "-0", "1", "-1", "2", "-3", "7", "007", " 7 ", "+7", "a", "7a", "-", "- 1", "9223372036854775807", "-9223372036854775808", "9223372036854775808", "18446744073709551615", "18446744073709551616", "-18446744073709551617", "4294967296", "9223372036854771711", "9223372036854771712", "-9223372036854771713", "-9223372036854775807", "4096", "4097", "-4095", "\xff")
	rows(words, 2, func(row []string) {
		agrees(t, "seq", row, "", nil)
		for _, op := range list("=", "!=", "<", "<=", ">", ">=", "+", "-", "*", "/", "%", "==", ":", "**", "&", "", "-eq") {
			agrees(t, "expr", list(row[0], op, row[1]), "", nil)
		}
	})
	for _, s := range words {
		agrees(t, "seq", list(s), "", nil)
	}
	rows(list("/", "//", "a", ".", "-"), 5, func(row []string) {
		agrees(t, "basename", list(strings.Join(row, "")), "", nil)
		agrees(t, "dirname", list(strings.Join(row, "")), "", nil)
	})
}

// TestAny: P12.1, rows of words by chance, one behind the other in a tree that grows and shrinks.
func TestAny(t *testing.T) {
	r := rand.New(rand.NewSource(12))
	options := list("-n", "-d", "-f", "-r", "-p", "-rf", "-fr", "-u", "-un", "-nru", "-l", "-w", "-c", "-x", "--", "-lw", "-pp")
	for range 400 {
		l := small()
		for range 60 {
			name := all()[r.Intn(len(all()))]
			if r.Intn(2) == 0 {
				name = list("mkdir", "touch", "cat", "rm")[r.Intn(4)]
			}
			var args []string
			for range r.Intn(3) {
				args = append(args, options[r.Intn(len(options))])
				if r.Intn(2) == 0 {
					args = append(args, some(r, 2, "0", "1", "3", ":", "a-c", "x", "%s", `\n`))
				}
			}
			if r.Intn(2) == 0 {
				args = nil
			}
			if name == "mkdir" && r.Intn(2) == 0 {
				args = list("-p")
			}
			for range r.Intn(4) {
				args = append(args, some(r, 4, "a", "b", "/", "d", "/f", "v", "..", ".", "-", "/a/b", "1"))
			}
			in := some(r, 12, "a", "b", ":", " ", "1", "-", "\n", "\n", "\t", "é", "\xff")
			agrees(t, name, args, in, l)
			if d, e := Run(name, args, in, l); e == api.OK {
				l = d.Tree
			}
			if tree.Check(l) != api.OK {
				t.Fatalf("P12.1: %s %q: no tree", name, args)
			}
		}
		if t.Failed() {
			return
		}
	}
}
