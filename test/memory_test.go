package test

import (
	"slices"
	"strings"
	"sync"
	"testing"
	"time"

	"cowrie/api"
)

// TestGiven: P10.3, what is handed in stays as it was, with the room behind it, in order or not.
func TestGiven(t *testing.T) {
	trees := [][]api.Node{nodes(), {leaf("/z", "1"), leaf("/a", "2"), leaf("/z", "3"), leaf("none", ""), dir("/d")}}
	for _, given := range trees {
		l := append(make([]api.Node, 0, 16), given...)
		for _, texts := range [][]string{nil, list("x"), list("-s", "/f"), list("!", "v"), list("5", "-lt", "3"), list("!", "-e", "d//f"), list("(", "/z", ")"), list("!", "b", "=", "a"), list("(", "-d", "./d/", ")"), list("e", "d", "c", "b", "a")} {
			args := append(make([]string, 0, 8), texts...)
			Eval(args, l)
			if len(args) == 2 {
				Single(args[0], args[1], l)
			}
			if room := args[:8]; !slices.Equal(room[:len(texts)], texts) || strings.Join(room[len(texts):], "") != "" {
				t.Errorf("P10.3: Eval changed its arguments %q: %q", texts, room)
			}
			if room := l[:16]; !slices.Equal(room[:len(given)], given) || slices.ContainsFunc(room[len(given):], func(n api.Node) bool { return n != api.Node{} }) {
				t.Errorf("P10.3: Eval(%q) changed the nodes: %v", texts, room)
			}
		}
	}
}

// TestKept: P10.3, P3: an answer hangs on what is handed in now, not on what was ahead, nor on other goroutines.
func TestKept(t *testing.T) {
	l, args := []api.Node{leaf("/f", "")}, list("-s", "/f")
	ask := func() int { return Eval(args, l) }
	got := []int{ask(), ask()}
	l[0].Data = "x"
	got = append(got, ask())
	l[0] = dir("/f")
	got = append(got, ask())
	args[0] = "-d"
	got = append(got, ask())
	l[0].Path = "/g"
	got = append(got, ask())
	args[0], args[1] = "!", ""
	got = append(got, ask())
	if !slices.Equal(got, []int{1, 1, 0, 1, 0, 1, 0}) {
		t.Error("P10.3: what was handed in is kept:", got)
	}
	shared := nodes()
	var all sync.WaitGroup
	for range 8 {
		all.Go(func() {
			for range 200 {
				if Eval(list("!", "-s", "/f"), shared) != 1 || Eval(list("(", "-d", "/d", ")"), shared) != 0 || Both("2", "-gt", "10") != 1 {
					t.Error("P3: answers hang on other goroutines")
				}
			}
		})
	}
	all.Wait()
}

// TestLarge: P1, what is large ends soon.
func TestLarge(t *testing.T) {
	from := time.Now()
	many := slices.Repeat(list("!"), 1<<22)
	for range 1000 {
		if n := Eval(many, nil); n != 2 {
			t.Fatal("P10.2: many arguments:", n)
		}
	}
	long := strings.Repeat("0", 1<<24)
	if n := Both(long+"7", "-eq", "7"); n != 0 {
		t.Error("P10.1: a long number:", n)
	}
	if n := Eval(list("!", long, "=", long+"1"), nil); n != 0 {
		t.Error("P10.2: long texts:", n)
	}
	if Unary(long) || Binary(long) || Single(long, long, nil) != 2 || Both(long, long, long) != 2 {
		t.Error("P10.1: a long text is no operator")
	}
	deep := strings.Repeat("/a", 1<<20)
	if Single("-e", deep, nodes()) != 1 || Single("-d", deep+strings.Repeat("/..", 1<<20), nodes()) != 0 {
		t.Error("P10.1: a long path")
	}
	huge := make([]api.Node, 1<<20)
	if Single("-e", "/", huge) != 1 || Single("-s", "/f", huge) != 1 {
		t.Error("P10.1: many nodes")
	}
	if d := time.Since(from); d > 10*time.Second {
		t.Error("P1: what is large takes", d)
	}
}
