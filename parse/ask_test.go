package parse

import (
	"fmt"
	"reflect"
	"slices"
	"strings"
	"testing"

	"cowrie/api"
)

// full: a command with all that there is in it, of no kind.
func full() api.Cmd {
	word := func(s string) api.Word { return api.Word{Parts: []api.Part{{Kind: 1, Text: s}}} }
	inner := func(s string) []api.Part {
		return []api.Part{{Kind: 3, List: []api.Cmd{{Kind: 1, Name: s}, {Kind: 1, Name: s + s}}}}
	}
	sums := []api.Sum{{Op: "+", Name: "n", N: 1, Kids: []api.Sum{{N: 2}}}}
	return api.Cmd{
		Kind:    20,
		Name:    "full",
		Words:   []api.Word{{Parts: []api.Part{{Kind: 2, Text: "t", Name: "n", Op: "-", Quoted: true, Word: inner("c"), More: inner("d"), Sums: sums, List: inner("b")[0].List, At: 3}}}, word("a")},
		Assigns: []api.Assign{{Name: "n", Op: "=", Word: api.Word{Parts: inner("e")}, Sums: sums, Array: true, List: []api.Word{{Parts: inner("f")}, word("b")}}, {Name: "m"}},
		Redirs:  []api.Redir{{FD: 2, Op: ">", Word: api.Word{Parts: inner("g")}}},
		Kids:    []api.Cmd{{Kind: 1, Name: "k"}, {Name: "l"}},
		Cases:   []api.Case{{Pats: []api.Word{{Parts: inner("h")}, word("c")}, Body: api.Cmd{Kind: 1, Name: "m"}}, {Body: api.Cmd{Name: "none"}}, {Pats: []api.Word{word("d")}, Body: api.Cmd{Kind: 1, Name: "n"}}},
		Conds:   []api.Cond{{Op: "=", Words: []api.Word{{Parts: inner("i")}}, Kids: []api.Cond{{Op: "-n", Words: []api.Word{word("e")}}}}, {Words: []api.Word{word("f")}}},
		Sums:    sums,
		At:      4,
	}
}

// twin: a copy of it, that shares nothing with it.
func twin[T any](x T) T {
	return reflectCopy(reflect.ValueOf(x)).Interface().(T)
}

func reflectCopy(v reflect.Value) reflect.Value {
	out := reflect.New(v.Type()).Elem()
	out.Set(v)
	switch v.Kind() {
	case reflect.Struct:
		for i := range v.NumField() {
			out.Field(i).Set(reflectCopy(v.Field(i)))
		}
	case reflect.Slice:
		if v.Len() > 0 {
			out.Set(reflect.MakeSlice(v.Type(), v.Len(), v.Len()))
		}
		for i := range v.Len() {
			out.Index(i).Set(reflectCopy(v.Index(i)))
		}
	}
	return out
}

// changes does it with each field within v being another one, one at a time.
func changes(v reflect.Value, path string, do func(path string)) {
	old := reflect.ValueOf(v.Interface())
	switch v.Kind() {
	case reflect.Int:
		v.SetInt(v.Int() + 1)
	case reflect.String:
		v.SetString(v.String() + "x")
	case reflect.Bool:
		v.SetBool(!v.Bool())
	case reflect.Struct:
		for i := range v.NumField() {
			changes(v.Field(i), path+"."+v.Type().Field(i).Name, do)
		}
		return
	case reflect.Slice:
		for i := range v.Len() {
			changes(v.Index(i), path+"[]", do)
		}
		v.Set(reflect.Append(v, reflect.Zero(v.Type().Elem())))
		do(path + " and one more")
		if v.Set(old); v.Len() > 0 {
			v.Set(v.Slice(0, v.Len()-1))
			do(path + " without the last")
		}
		v.Set(old)
		return
	}
	do(path)
	v.Set(old)
}

// TestSame: P14.1, commands are one if all but their places is.
func TestSame(t *testing.T) {
	a := full()
	b := twin(a)
	if !Same(a, b) || !SameWord(a.Words[0], b.Words[0]) {
		t.Error("P14.1: Same of a command and its twin")
	}
	n := 0
	changes(reflect.ValueOf(&b).Elem(), "", func(path string) {
		n++
		want := strings.HasSuffix(path, ".At")
		if Same(a, b) != want || Same(b, a) != want {
			t.Error("P14.1: Same, where this is another one:", path)
		}
	})
	changes(reflect.ValueOf(&b.Words[0]).Elem(), "", func(path string) {
		n++
		want := strings.HasSuffix(path, ".At")
		if SameWord(a.Words[0], b.Words[0]) != want || SameWord(b.Words[0], a.Words[0]) != want {
			t.Error("P14.1: SameWord, where this is another one:", path)
		}
	})
	if n < 500 || !reflect.DeepEqual(a, b) {
		t.Error("P14.1: so many were changed:", n)
	}
	empty := api.Cmd{Words: []api.Word{}, Assigns: []api.Assign{}, Redirs: []api.Redir{}, Kids: []api.Cmd{}, Cases: []api.Case{}, Conds: []api.Cond{}, Sums: []api.Sum{}}
	if !Same(api.Cmd{}, empty) || !SameWord(api.Word{}, api.Word{Parts: []api.Part{}}) {
		t.Error("P1: Same of nil and empty lists")
	}
	for _, x := range []struct {
		a, b string
		want bool
	}{
		{"a;b", "a\n\nb", true}, {"a $(b;c)", " a  $(\nb\nc\n)", true}, {"a <<E\n$(b;c)\nE", "a <<F\n$(b\nc)\nF", true}, {"a <(b;c)", "a <( b; c )", true},
		{"((a))", "((a + 0))", false}, {"a", "'a'", false}, {"a >b", "a 2>b", false}, {"(a)", "{ a; }", false}, {"a && b", "a || b", false}, {"[[ a ]]", "[[ -n a ]]", false}, {"[[ a = b ]]", "[[ a == b ]]", false}, {"for x do a; done", "for x in; do a; done", false}, {"a=", "a=''", false}, {"a=()", "a=", false}, {"a $(b)", "a \"$(b)\"", false}, {"a $(b)", "a <(b)", false},
	} {
		a, _, e := Script(x.a, true)
		b, _, f := Script(x.b, true)
		if Same(a, b) != x.want || e != api.OK || f != api.OK {
			t.Errorf("P14.1: Same of %q and %q: %v", x.a, x.b, Same(a, b))
		}
	}
}

// names: the names of commands.
func names(l []api.Cmd) string {
	var out []string
	for _, c := range l {
		out = append(out, c.Name)
	}
	return strings.Join(out, " ")
}

// TestWithin: P14.1, Kids and Words in their order.
func TestWithin(t *testing.T) {
	c := full()
	if got := names(Kids(c)); got != "k l m n b bb c cc d dd e ee f ff g gg h hh i ii" {
		t.Error("P14.1: Kids:", got)
	}
	want := fmt.Sprint([]api.Word{c.Words[0], c.Words[1], c.Assigns[0].Word, c.Assigns[0].List[0], c.Assigns[0].List[1], c.Assigns[1].Word, c.Redirs[0].Word, c.Cases[0].Pats[0], c.Cases[0].Pats[1], c.Cases[2].Pats[0], c.Conds[0].Words[0], c.Conds[0].Kids[0].Words[0], c.Conds[1].Words[0]})
	if got := fmt.Sprint(Words(c)); got != want {
		t.Error("P14.1: Words:", got)
	}
	for _, x := range []struct{ s, kids, words string }{
		{"", "", ""},
		{"a", "", " a"},
		{"a b $(c) ${d-$(e)} >$(f)", "cmd6(c) cmd15(e) cmd22(f)", " a b $6(cmd6(c)) ${d-<$15(cmd15(e))>} $22(cmd22(f))"},
		{"a= b=c d=(e f) g[1]=h", "", "  c  e f h"},
		{"a; b $(c)", "cmd0(a) cmd3(b $7(cmd7(c)))", ""},
		{"case a in b|c) d;; e) ;; esac >f", "cmd15(d)", " a f b c e"},
		{"for x do a; done <b", "cmd9(a)", " b"},
		{"for x in a b; do c; done", "cmd17(c)", " a b"},
		{"f() { a; }", "group4(cmd6(a))", ""},
		{"[[ a = $(b) && ( -n c || ! d ) ]]", "cmd9(b)", " a $9(cmd9(b)) c d"},
		{"local x y=$(a)", "cmd12(a)", "  $12(cmd12(a))"},
		{"a <<E\nb $(c)\nE\n", "cmd10(c)", " a 'b '\"$10(cmd10(c))'\n'"},
		{"if a; then b; elif c; then d; fi", "cmd3(a) cmd11(b) if14(cmd19(c) cmd27(d))", ""},
	} {
		c, _, e := Script(x.s, true)
		var kids []string
		for _, k := range Kids(c) {
			kids = append(kids, shape(k))
		}
		if got := strings.Join(kids, " "); got != x.kids || wordsShape(Words(c)) != x.words || e != api.OK {
			t.Errorf("P14.1: %q: Kids %s, Words%s", x.s, got, wordsShape(Words(c)))
		}
	}
}

// chain: commands within each other, so many.
func chain(n int) api.Cmd {
	c := api.Cmd{Kind: 1}
	for range n - 1 {
		c = api.Cmd{Kind: 8, Kids: []api.Cmd{c}}
	}
	return c
}

// TestMeasures: P14.1, Deep, Size and Empty.
func TestMeasures(t *testing.T) {
	for _, x := range []struct {
		s          string
		deep, size int
	}{
		{"a", 1, 1}, {"a; b; c", 2, 4}, {"a && b && c", 3, 5}, {"! a | b", 3, 4}, {"a $(b)", 2, 2}, {"a $(b; c) ${x-$(d)}", 3, 5}, {"f() { a; }", 3, 3}, {"case a in b) c;; d) ;; e) { f; };; esac", 3, 4}, {"for x do a; done", 2, 2}, {"if a; then b; elif c; then d; fi", 3, 6}, {"x=$(a) y[1]=$(b) z=($(c))", 2, 4}, {"a >$(b) <<E\n$(c)\nE\n", 2, 3}, {"[[ $(a) = b || -n <(c) ]]", 2, 3}, {"case a in $(b)) ;; esac", 2, 2}, {"local x=$(a)", 2, 2}, {"(($x))", 1, 1},
	} {
		c, _, e := Script(x.s, true)
		if Deep(c) != x.deep || Size(c) != x.size || e != api.OK || Empty(c) {
			t.Errorf("P14.1: %q: Deep %d, Size %d, Empty %v", x.s, Deep(c), Size(c), Empty(c))
		}
	}
	for _, n := range []int{1, 2, 999, 1000, 1001, 1 << 16} {
		if c := chain(n); Deep(c) != min(n, 1000) || Size(c) != n {
			t.Errorf("P14.1: of %d commands: Deep %d, Size %d", n, Deep(c), Size(c))
		}
	}
	row := api.Cmd{Kind: 2, Kids: slices.Repeat([]api.Cmd{{Kind: 1}}, 1023)}
	rows := api.Cmd{Kind: 2, Kids: slices.Repeat([]api.Cmd{row}, 1023)}
	for _, n := range []int{0, 5, 1021, 1022, 1023, 1030, 3000} {
		more := slices.Repeat([]api.Cmd{{Kind: 1}}, n)
		for _, l := range [][]api.Cmd{slices.Concat(rows.Kids, more), slices.Concat(more, rows.Kids)} {
			c := api.Cmd{Kind: 2, Kids: l}
			if Size(row) != 1024 || Size(c) != min(1+1023*1024+n, 1<<20) || Deep(c) != 3 {
				t.Errorf("P14.1: of rows of commands and %d: Deep %d, Size %d", n, Deep(c), Size(c))
			}
		}
	}
	side := api.Cmd{Kind: 2, Kids: []api.Cmd{chain(3), chain(999), chain(5), chain(2000)}}
	if Deep(side) != 1000 || Size(side) != 3008 {
		t.Error("P14.1: of unlike ones:", Deep(side), Size(side))
	}
	for kind := -1; kind < 20; kind++ {
		if c := (api.Cmd{Kind: kind, Name: "a"}); Empty(c) != (kind == 0) || Deep(c) != 1 || Size(c) != 1 {
			t.Errorf("P14.1: of kind %d: Empty %v, Deep %d, Size %d", kind, Empty(c), Deep(c), Size(c))
		}
	}
}
