package print

import (
	"reflect"
	"slices"
	"strings"
	"testing"
	"time"
	"unsafe"

	"cowrie/api"
	"cowrie/parse"
)

// stretch is some memory: from one address up to another.
type stretch struct {
	from, end uintptr
	what      string
}

// stretches: all memory that v has. Texts of one octet are left out, as Go keeps one of each.
func stretches(v reflect.Value) []stretch {
	var out []stretch
	switch v.Kind() {
	case reflect.String:
		if s := v.String(); len(s) > 1 {
			from := uintptr(unsafe.Pointer(unsafe.StringData(s)))
			out = append(out, stretch{from, from + uintptr(len(s)), s})
		}
	case reflect.Struct:
		for i := range v.NumField() {
			out = append(out, stretches(v.Field(i))...)
		}
	case reflect.Slice:
		if v.Cap() > 0 {
			from := v.Pointer()
			out = append(out, stretch{from, from + uintptr(v.Cap())*v.Type().Elem().Size(), v.Type().String()})
		}
		for i := range v.Len() {
			out = append(out, stretches(v.Index(i))...)
		}
	}
	return out
}

// apartAll asks that none of all that the values have lies where another one does.
func apartAll(t *testing.T, what string, l ...any) {
	t.Helper()
	var all []stretch
	for _, x := range l {
		all = append(all, stretches(reflect.ValueOf(x))...)
	}
	slices.SortFunc(all, func(a, b stretch) int {
		if a.from < b.from {
			return -1
		}
		return 1
	})
	for i := 1; i < len(all); i++ {
		if all[i].from < all[i-1].end {
			t.Errorf("P15.4: %s: %q and %q are in one memory", what, all[i-1].what, all[i].what)
		}
	}
}

// scripts: some that have all that there is.
func scripts() []string {
	return []string{
		"echo one 'two'\"three $four\" $(five six; seven) ${eight:-nine $(ten)} $((eleven + 22)) >out 2>>err <<END >&2\nhere $(doc)\nEND\n",
		"xx=yy zz+=\"aa\" arr=(bb cc $(dd)) arr[ii + 11]+=ee empty=",
		"if aa; then bb; elif cc; then dd; else ee; fi >ff",
		"while aa && bb; do cc || dd; done; until ! ee | ff; do gg; done",
		"for xx in aa bb; do cc; done; for yy; do dd; done; for ((ii = 0; ii <= 10; ii++)); do ee; done",
		"case aa in bb|cc) dd;; (ee*) ;; esac",
		"func() { local aa=bb cc; (dd); }; function name [[ -n aa && ! ( bb == cc* || -f dd ) || ee -lt ff ]]",
		"((aa += 10)); aa <(bb cc) <<<dd &>ee; [[ word ]]",
		"aa $'bb\\n''cc'$'dd' ${ee//ff/gg} ${hh:11:22} ${ii[33]} ${#jj[@]}",
		"aa",
	}
}

// TestMemory: P15.4, no answer shares memory with what was handed in, with itself or with another one, and nothing that was handed in is changed.
func TestMemory(t *testing.T) {
	for _, s := range scripts() {
		c, _, e := parse.Script(s, true)
		if e != api.OK {
			t.Fatalf("%q is not read", s)
		}
		kept := twin(c)
		one, _ := Script(c, true)
		two, _ := Script(c, true)
		given := strings.Clone(s)
		three, _, _ := Canon(given, true)
		canon := strings.Clone(one)
		four, _, _ := Canon(canon, true)
		apartAll(t, "Script and Canon of "+s, c, one, two, given, three, canon, four)
		if one != two || one != three || one != four || one == "" {
			t.Errorf("P3: Script and Canon of %q: %q, %q, %q, %q", s, one, two, three, four)
		}
		a, b := Bare(c), Bare(c)
		apartAll(t, "Bare of "+s, c, a, b, Bare(a))
		if !reflect.DeepEqual(a, b) {
			t.Errorf("P3: Bare of %q: %v, %v", s, a, b)
		}
		for _, w := range parse.Words(c) {
			apartAll(t, "Word of "+s, w, Word(w), Word(w))
		}
		for _, x := range c.Sums {
			apartAll(t, "Sum of "+s, x, Sum(x), Sum(x))
		}
		if !reflect.DeepEqual(c, kept) || given != s {
			t.Errorf("P15.4: what was handed in is changed: %q", s)
		}
	}
	for _, w := range []api.Word{words("text")[0], word(quote("text")), word(param("name", "")), word(api.Part{Kind: list, Text: "text"}), word(api.Part{Kind: sum, Sums: []api.Sum{{Name: "name"}}}), word(api.Part{Kind: 9, Text: "text"}), word(param("name", "op"))} {
		w = twin(w)
		apartAll(t, "Word", w, Word(w), Word(w))
		apartAll(t, "Bare", w, Bare(says(w)), Bare(api.Cmd{Name: strings.Clone("name"), Conds: []api.Cond{{Op: strings.Clone("op")}}}))
	}
	x := twin(api.Sum{Name: "name"})
	apartAll(t, "Sum", x, Sum(x), Sum(x))
}

// TestNothing: P1, nil and empty lists are one.
func TestNothing(t *testing.T) {
	empty := api.Cmd{Words: []api.Word{}, Assigns: []api.Assign{}, Redirs: []api.Redir{}, Kids: []api.Cmd{}, Cases: []api.Case{}, Conds: []api.Cond{}, Sums: []api.Sum{}}
	if s, e := Script(empty, false); s != "" || e != api.OK {
		t.Errorf("P1: Script of nothing: %q, %d", s, e)
	}
	if !parse.Same(Bare(empty), api.Cmd{}) {
		t.Error("P1: Bare of nothing")
	}
	c := empty
	c.Kind, c.Words = simple, []api.Word{{Parts: []api.Part{{Kind: text, Text: "a", Word: []api.Part{}, More: []api.Part{}, Sums: []api.Sum{}, List: []api.Cmd{}}}}}
	tells(t, "a command with empty lists", c, "sb", "a\n")
	d := empty
	d.Kind, d.Assigns = simple, []api.Assign{{Name: "a", Op: "=", Word: api.Word{Parts: []api.Part{}}, Sums: []api.Sum{}, List: []api.Word{}}}
	tells(t, "an assignment with empty lists", d, "sb", "a=\n")
}

// TestLarge: P1, what is large, deep or strange ends soon, and nothing panics.
func TestLarge(t *testing.T) {
	from := time.Now()
	var l []api.Cmd
	c := call("a")
	cond, part, x := api.Cond{Op: "word", Words: words("a")}, quote("a"), api.Sum{}
	turned := cond
	for range 1 << 16 {
		c = of(group, c)
		cond = api.Cond{Op: "&&", Kids: []api.Cond{{Op: "word", Words: words("a")}, cond}}
		turned = api.Cond{Op: "!", Kids: []api.Cond{turned}}
		part = param("a", "-", part)
		x = api.Sum{Op: "neg", Kids: []api.Sum{x}}
	}
	l = append(l, c, api.Cmd{Kind: question, Conds: []api.Cond{cond}}, api.Cmd{Kind: question, Conds: []api.Cond{turned}}, says(word(part)), api.Cmd{Kind: arithmetic, Sums: []api.Sum{x}})
	l = append(l, says(slices.Repeat(words("a"), 1<<18)...), says(word(slices.Repeat([]api.Part{quote("a")}, 1<<18)...)), says(word(slices.Repeat([]api.Part{inQuote(param("a", ""))}, 1<<18)...)), says(word(slices.Repeat([]api.Part{bareText("a")}, 1<<18)...)))
	l = append(l, of(sequence, slices.Repeat([]api.Cmd{call("a")}, 1<<18)...), api.Cmd{Kind: choice, Words: words("a"), Cases: slices.Repeat([]api.Case{{Pats: words("b")}}, 1<<18)})
	l = append(l, says(words(strings.Repeat("a", 1<<24))...), says(word(run(says(word(quote(strings.Repeat("a)", 1<<20))))))), says(word(run(says(word(param("a", "-", bareText(strings.Repeat(")", 1<<16)))))))))
	here := api.Cmd{Kind: simple, Redirs: slices.Repeat([]api.Redir{{Op: "<<", Word: word(quote(strings.Repeat("EOF\n", 1000)))}}, 1000)}
	l = append(l, here)
	for _, c := range l {
		for _, bash := range []bool{false, true} {
			if s, e := Script(c, bash); s != "" || e != api.ErrPlain && e != api.ErrLong {
				t.Errorf("P1: Script of what is large: %d octets, %d", len(s), e)
			}
		}
		Bare(c)
		for _, w := range c.Words {
			Word(w)
		}
		for _, x := range c.Sums {
			Sum(x)
		}
	}
	short := turned
	for range 1<<16 - 30000 {
		short = short.Kids[0]
	}
	if s, ok := comesBack(t, api.Cmd{Kind: question, Conds: []api.Cond{short}}, true); !ok {
		t.Errorf("P15.2: a deep condition: %d octets", len(s))
	}
	if d := time.Since(from); d > 60*time.Second {
		t.Error("P1: what is large takes", d)
	}
	for kind := -1; kind < 20; kind++ {
		for n := range 4 {
			for _, inner := range []api.Cmd{{Kind: kind}, {Kind: kind, Kids: make([]api.Cmd, n), Cases: make([]api.Case, n), Words: make([]api.Word, n), Redirs: make([]api.Redir, n), Assigns: make([]api.Assign, n), Conds: make([]api.Cond, n), Sums: make([]api.Sum, n)}, {Kind: kind, Kids: make([]api.Cmd, n)}, {Kind: kind, Words: make([]api.Word, n)}, {Kind: kind, Redirs: make([]api.Redir, n)}, {Kind: kind, Assigns: make([]api.Assign, n)}, {Kind: kind, Conds: make([]api.Cond, n)}, {Kind: kind, Sums: make([]api.Sum, n), Kids: make([]api.Cmd, n)}} {
				for _, c := range []api.Cmd{inner, of(group, inner), of(branch, call("a"), call("b"), inner), says(word(run(inner)))} {
					comesBack(t, c, true)
					comesBack(t, c, false)
					Bare(c)
				}
			}
			Word(word(slices.Repeat([]api.Part{{Kind: kind}}, n)...))
			Word(word(api.Part{Kind: kind, Op: ":", Sums: make([]api.Sum, n), Word: make([]api.Part, n), More: make([]api.Part, n), List: make([]api.Cmd, n), Quoted: n > 1}))
		}
	}
}
