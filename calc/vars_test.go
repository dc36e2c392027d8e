package calc

import (
	"math"
	"slices"
	"strconv"
	"strings"
	"testing"
	"unsafe"

	"cowrie/api"
)

// TestGet: P6.1, the last of a name; nothing beside false.
func TestGet(t *testing.T) {
	vars := []api.Var{text("x", "1"), text("y", "2"), list("x", "a", "b"), text("", "none"), text("z", "3"), text("z", ""), {Name: "w", Text: "t", Array: true, List: []string{"u"}}, text("1 x\x00", "odd")}
	for _, c := range []struct {
		name string
		want int
	}{{"x", 2}, {"y", 1}, {"", 3}, {"z", 5}, {"w", 6}, {"1 x\x00", 7}} {
		if got, ok := Get(vars, c.name); !ok || shape([]api.Var{got}) != shape(vars[c.want:c.want+1]) {
			t.Errorf("P6.1: Get(%q): %v, %t", c.name, got, ok)
		}
	}
	for _, name := range []string{"X", "xx", "x ", "v", "1", "\x00", strings.Repeat("x", 1<<16)} {
		if got, ok := Get(vars, name); ok || shape([]api.Var{got}) != shape([]api.Var{{}}) {
			t.Errorf("P6.1: Get(%.20q): %v, %t", name, got, ok)
		}
	}
	for _, none := range [][]api.Var{nil, {}} {
		if got, ok := Get(none, ""); ok || shape([]api.Var{got}) != shape([]api.Var{{}}) {
			t.Error("P6.1: Get of no variables:", got, ok)
		}
	}
}

// TestPut: P6.1, instead of those of its name, at the first one's place, or behind all.
func TestPut(t *testing.T) {
	for _, c := range []struct {
		vars []api.Var
		v    api.Var
		want []api.Var
	}{
		{nil, text("x", "1"), []api.Var{text("x", "1")}},
		{[]api.Var{}, text("", ""), []api.Var{{}}},
		{[]api.Var{text("x", "1")}, text("x", "2"), []api.Var{text("x", "2")}},
		{[]api.Var{text("y", "1")}, text("x", "2"), []api.Var{text("y", "1"), text("x", "2")}},
		{[]api.Var{text("a", "1"), text("x", "2"), text("b", "3")}, text("x", "4"), []api.Var{text("a", "1"), text("x", "4"), text("b", "3")}},
		{[]api.Var{text("x", "1"), text("a", "2"), text("x", "3"), text("a", "4"), text("x", "5")}, text("x", "6"), []api.Var{text("x", "6"), text("a", "2"), text("a", "4")}},
		{[]api.Var{text("a", "2"), text("x", "3"), text("x", "5")}, list("x", "6", "7"), []api.Var{text("a", "2"), list("x", "6", "7")}},
		{[]api.Var{list("x", "6", "7"), text("X", "5")}, text("x", ""), []api.Var{text("x", ""), text("X", "5")}},
		{[]api.Var{text("a", "1"), text("a", "2")}, text("b", "3"), []api.Var{text("a", "1"), text("a", "2"), text("b", "3")}},
		{[]api.Var{text("1", "1"), text("", "2")}, text("1", "\x00"), []api.Var{text("1", "\x00"), text("", "2")}},
		{[]api.Var{text("a", "1")}, api.Var{Name: "b", Text: "t", Array: true, List: []string{"u"}}, []api.Var{text("a", "1"), {Name: "b", Text: "t", Array: true, List: []string{"u"}}}},
	} {
		if got := Put(c.vars, c.v); shape(got) != shape(c.want) {
			t.Errorf("P6.1: Put(%s; %s): %s, want %s", shape(c.vars), shape([]api.Var{c.v}), shape(got), shape(c.want))
		}
	}
}

// TestGot: P6.3, what is put, or assigned, is got, and is the variable's number.
func TestGot(t *testing.T) {
	all := [][]api.Var{nil, {text("y", "1")}, {text("x", "bad")}, {text("x", "1"), text("y", "2"), list("x", "3")}}
	for _, vars := range all {
		for _, x := range []api.Var{text("x", ""), text("x", "a b"), list("x"), list("x", "1", "")} {
			if got, ok := Get(Put(vars, x), "x"); !ok || shape([]api.Var{got}) != shape([]api.Var{x}) {
				t.Errorf("P6.3: Get of Put(%s; %s): %v, %t", shape(vars), shape([]api.Var{x}), got, ok)
			}
		}
		for _, n := range edges() {
			m, after, e := Eval(op("=", v("x"), valued(n)), vars)
			got, ok := Get(after, "x")
			if m != n || e != api.OK || !ok || shape([]api.Var{got}) != shape([]api.Var{text("x", strconv.Itoa(n))}) {
				t.Errorf("P6.3: Get of x = %d: %v, %t, %d", n, got, ok, e)
			}
			again, same, e := Text("x", after, false)
			if again != n || shape(same) != shape(after) || e != api.OK {
				t.Errorf("P6.3: x, behind x = %d: %d, %d", n, again, e)
			}
			if y, ok := Get(vars, "y"); ok {
				if now, still := Get(after, "y"); !still || shape([]api.Var{now}) != shape([]api.Var{y}) {
					t.Errorf("P6.3: y, behind x = %d: %v", n, now)
				}
			}
		}
	}
	if n, _, e := Text("x = "+strconv.Itoa(math.MinInt64)+", x == y", []api.Var{text("y", strconv.Itoa(math.MinInt64))}, false); n != 1 || e != api.OK {
		t.Error("P6.3: the least number:", n, e)
	}
}

// shares: does a lie in b's memory?
func shares(a, b string) bool {
	if a == "" || b == "" {
		return false
	}
	at, from := uintptr(unsafe.Pointer(unsafe.StringData(a))), uintptr(unsafe.Pointer(unsafe.StringData(b)))
	return at >= from && at < from+uintptr(len(b)) || from >= at && from < at+uintptr(len(a))
}

// texts: all texts of variables.
func texts(vars []api.Var) []string {
	var l []string
	for _, x := range vars {
		l = append(append(l, x.Name, x.Text), x.List...)
	}
	return l
}

// apart asks that no text and no list of one list of variables lies in the memory of another one, nor two lists of one in the same.
func apart(t *testing.T, what string, all ...[]api.Var) {
	t.Helper()
	var lists []*string
	var vars []*api.Var
	for i, l := range all {
		for _, other := range all[i+1:] {
			for _, a := range texts(l) {
				for _, b := range texts(other) {
					if shares(a, b) {
						t.Errorf("P6.4: %s: %q is another one's memory", what, a)
					}
				}
			}
		}
		if cap(l) > 0 {
			vars = append(vars, unsafe.SliceData(l))
		}
		for _, x := range l {
			if cap(x.List) > 0 {
				lists = append(lists, unsafe.SliceData(x.List))
			}
		}
	}
	for i, l := range lists {
		if slices.Contains(lists[i+1:], l) {
			t.Errorf("P6.4: %s: two lists are one", what)
		}
	}
	for i, l := range vars {
		if slices.Contains(vars[i+1:], l) {
			t.Errorf("P6.4: %s: two lists of variables are one", what)
		}
	}
}

// given is variables of memory of their own, all texts longer than an octet, so that none is one that Go keeps. Two arrays of it have one list.
func given() []api.Var {
	own := func(s string) string { return string([]byte(s)) }
	room := make([]string, 2, 8) // with room behind, in which an answer might be put
	room[0], room[1] = own("first"), own("second")
	vars := make([]api.Var, 0, 16)
	return append(vars, api.Var{Name: own("alpha"), Text: own("123")}, api.Var{Name: own("beta"), Array: true, List: room}, api.Var{Name: own("alpha"), Text: own("456")}, api.Var{Name: own("gamma"), Text: own("bad")}, api.Var{Name: own("delta"), Array: true, List: room})
}

// TestMemory: P6.4, what is handed in is not changed, and no answer shares its memory, nor that of another answer.
func TestMemory(t *testing.T) {
	for _, s := range []string{"", "alpha", "alpha = 12", "fresh = 3456, other = 7890", "beta = 12345", "alpha + gamma", "1 / 0", "12 +", "fresh = 123, 1 / 0", "alpha++"} {
		vars := given()
		before := shape(vars)
		word := string([]byte(s))
		_, one, e := Text(word, vars, true)
		_, two, _ := Text(word, vars, true)
		apart(t, s, []api.Var{text("", word)}, vars[:2], one, two)
		apart(t, s, vars[2:], one, two)
		told := shape(two)
		for i := range one {
			for k := range one[i].List {
				one[i].List[k] = "#"
			}
			one[i] = text("#", "#")
		}
		_ = append(one, text("#", "#"))
		if shape(vars) != before || shape(two) != told || e != api.OK && told != before {
			t.Errorf("P6.4: Text(%q) changed the variables: %s, %s", s, shape(vars), shape(two))
		}
		if got := vars[:6][5]; got.Name != "" {
			t.Errorf("P6.4: Text(%q) wrote behind the variables: %v", s, got)
		}
	}
}

// TestMemoryOfSums: P6.4, names that were assigned are not the expression's memory.
func TestMemoryOfSums(t *testing.T) {
	name := string([]byte("alpha"))
	x := op(",", op("=", v(name), num(1234)), op("pre++", v(string([]byte("beta")))))
	_, l, e := Eval(x, nil)
	if shape(l) != shape([]api.Var{text("alpha", "1234"), text("beta", "1")}) || e != api.OK {
		t.Error("P6.4:", shape(l), e)
	}
	apart(t, "an expression", l, []api.Var{text(name, x.Kids[1].Kids[0].Name)})
	if x.Kids[0].Kids[0].Name != "alpha" || len(x.Kids) != 2 || x.Kids[1].Op != "pre++" {
		t.Error("P6.4: the expression was changed:", x)
	}
}

// TestMemoryOfVars: P6.4, Get and Put.
func TestMemoryOfVars(t *testing.T) {
	vars := given()
	before := shape(vars)
	for _, name := range []string{"alpha", "beta", "gamma", "delta"} {
		one, _ := Get(vars, name)
		two, _ := Get(vars, name)
		apart(t, "Get", vars[:2], []api.Var{one}, []api.Var{two})
		apart(t, "Get", vars[2:], []api.Var{one}, []api.Var{two})
		for i := range one.List {
			one.List[i] = "#"
		}
	}
	for _, name := range []string{"alpha", "beta", "fresh"} {
		x := api.Var{Name: string([]byte(name)), Text: string([]byte("new text")), Array: true, List: []string{string([]byte("new one")), string([]byte("new two"))}}
		one, two := Put(vars, x), Put(vars, x)
		apart(t, "Put", vars[:2], []api.Var{x}, one, two)
		apart(t, "Put", vars[2:], []api.Var{x}, one, two)
		told := shape(two)
		for i := range one {
			for k := range one[i].List {
				one[i].List[k] = "#"
			}
			one[i] = text("#", "#")
		}
		if shape(two) != told || x.List[0] != "new one" {
			t.Error("P6.4: Put's answers share memory")
		}
	}
	if got := vars[:6][5]; got.Name != "" || shape(vars) != before {
		t.Error("P6.4: the variables were changed:", shape(vars), got)
	}
}

// TestAgain: P3, answers hang on the arguments alone, whatever was asked ahead.
func TestAgain(t *testing.T) {
	for range 3 {
		evals(t, "x = 2 + 3", nil, 5, text("x", "5"))
		evals(t, "x", nil, 0)
		refuses(t, "y = 1, 1 / 0", []api.Var{text("x", "1")}, api.ErrZero)
		evals(t, "y", nil, 0)
		evals(t, "d = c = b = a = 1", nil, 1, text("a", "1"), text("b", "1"), text("c", "1"), text("d", "1"))
	}
}
