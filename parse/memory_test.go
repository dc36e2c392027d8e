package parse

import (
	"reflect"
	"slices"
	"strings"
	"testing"
	"time"
	"unsafe"

	"cowrie/api"
)

// span is some memory: from one address up to another.
type span struct {
	from, end uintptr
	what      string
}

// spans: all memory that v has. Texts of one octet are left out, as Go keeps one of each.
func spans(v reflect.Value) []span {
	var out []span
	switch v.Kind() {
	case reflect.String:
		if s := v.String(); len(s) > 1 {
			from := uintptr(unsafe.Pointer(unsafe.StringData(s)))
			out = append(out, span{from, from + uintptr(len(s)), s})
		}
	case reflect.Struct:
		for i := range v.NumField() {
			out = append(out, spans(v.Field(i))...)
		}
	case reflect.Slice:
		if v.Cap() > 0 {
			from := v.Pointer()
			out = append(out, span{from, from + uintptr(v.Cap())*v.Type().Elem().Size(), v.Type().String()})
		}
		for i := range v.Len() {
			out = append(out, spans(v.Index(i))...)
		}
	}
	return out
}

// apart asks that none of all that the values have lies where another one does.
func apart(t *testing.T, what string, l ...any) {
	t.Helper()
	var all []span
	for _, x := range l {
		all = append(all, spans(reflect.ValueOf(x))...)
	}
	slices.SortFunc(all, func(a, b span) int {
		if a.from < b.from {
			return -1
		}
		return 1
	})
	for i := 1; i < len(all); i++ {
		if all[i].from < all[i-1].end {
			t.Errorf("P14.3: %s: %q and %q are in one memory", what, all[i-1].what, all[i].what)
		}
	}
}

// rich: scripts that have all that there is.
func rich() []string {
	return []string{
		"echo one 'two'\"three $four\" $(five six; seven) ${eight:-nine $(ten)} $((eleven + 22)) >out 2>>err <<END >&2\nhere $(doc)\nEND\n",
		"xx=yy zz+=\"aa\" arr=(bb cc $(dd)) arr[ii + 11]+=ee empty=",
		"if aa; then bb; elif cc; then dd; else ee; fi >ff",
		"while aa && bb; do cc || dd; done; until ! ee | ff; do gg; done",
		"for xx in aa bb; do cc; done; for yy; do dd; done; for ((ii = 0; ii <= 10; ii++)); do ee; done",
		"case aa in bb|cc) dd;; (ee*) ;; esac",
		"func() { local aa=bb cc; (dd); }; function name [[ -n aa && ! ( bb == cc* || -f dd ) || ee -lt ff ]]",
		"((aa += 10)); aa <(bb cc) <<<dd &>ee; [[ word ]]",
	}
}

// TestMemory: P14.3, no answer shares memory with the script, with itself or with another one, and none is changed by a later call.
func TestMemory(t *testing.T) {
	for _, s := range rich() {
		text := strings.Clone(s)
		one, n, e := Script(text, true)
		two, m, f := Script(text, true)
		if e != api.OK || told(one, n, e) != told(two, m, f) {
			t.Errorf("P3: Script(%q): %s, %s", s, told(one, n, e), told(two, m, f))
		}
		apart(t, "Script of "+s, text, one, two)
		kids, words := Kids(one), Words(one)
		apart(t, "Kids and Words of "+s, text, one, kids, Kids(one), words, Words(one))
		if !reflect.DeepEqual(words, one.Words) && one.Kind == simple && len(one.Assigns)+len(one.Redirs) == 0 {
			t.Error("P14.1: Words of", s)
		}
		Same(one, two)
		Deep(one)
		Size(one)
		if told(one, n, e) != told(two, m, f) || text != s {
			t.Errorf("P14.3: what was handed in is changed: %q", s)
		}
	}
	c := twin(full())
	apart(t, "a full command", c, Kids(c), Kids(c), Words(c), Words(c))
	if !reflect.DeepEqual(c, full()) {
		t.Error("P14.3: a full command is changed")
	}
	copied := copyCmd(c)
	if !reflect.DeepEqual(copied, c) {
		t.Error("P14.1: a command within is not as it was:", copied)
	}
	outer := api.Cmd{Kids: []api.Cmd{c}}
	if k := Kids(outer); len(k) != 1 || !reflect.DeepEqual(k[0], c) {
		t.Error("P14.1: Kids are not as they were:", k)
	}
}

// TestLarge: P1, what is large, or deep, ends soon, and nothing panics.
func TestLarge(t *testing.T) {
	from := time.Now()
	pieces := append(scripts(), "a a ", "a;", "a&&", "a|", "if ", "if a;then ", "elif a;then ", "case a in ", "a) b;;", "[[ (", "[[ !", "[[ a||", "(", "{ ", "f()", "f(){ ", "a$(", "<(", "a <<E\n", "a <<E;", "a[1]=", "a[", "a=(", "((", "$((", "for ((", "local a ", "2>a ", "\\\n", "# ", "! ", "x=1 ", "<<<a ")
	for _, piece := range pieces {
		for _, ahead := range []string{"", "a ", "[[ ", "if a; then b; ", "case a in ", "a=(", "$("} {
			Script(ahead+strings.Repeat(piece, api.MaxFile/8/len(piece)), true)
			Script(ahead+strings.Repeat(piece, api.MaxFile/8/len(piece)), false)
		}
		Script(strings.Repeat(piece, api.MaxFile/len(piece)), true)
		Script(strings.Repeat(piece, api.MaxFile), true)
	}
	Script("[[ "+strings.Repeat("(", 30000)+"a"+strings.Repeat(")", 30000)+" ]]", true)
	c := chain(1 << 16)
	if !Same(c, chain(1<<16)) || len(Kids(c)) != 1 || Deep(c) != 1000 {
		t.Error("P1: a deep command")
	}
	cond := api.Cond{Words: make([]api.Word, 1)}
	for range 1 << 16 {
		cond = api.Cond{Kids: []api.Cond{cond}}
	}
	part := api.Part{Kind: 3, List: []api.Cmd{{}}}
	for range 1 << 16 {
		part = api.Part{Word: []api.Part{part}}
	}
	c = api.Cmd{Conds: []api.Cond{cond}, Words: []api.Word{{Parts: []api.Part{part}}}}
	if len(Words(c)) != 2 || len(Kids(c)) != 1 || Size(c) != 2 || Deep(c) != 2 || !Same(c, c) {
		t.Error("P1: a deep condition, a deep word")
	}
	if d := time.Since(from); d > 60*time.Second {
		t.Error("P1: what is large takes", d)
	}
}
