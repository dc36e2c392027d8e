package print

import (
	"reflect"
	"strings"
	"testing"

	"cowrie/api"
	"cowrie/parse"
)

// dialects: the names of the dialects in tests, s (sh) and b (bash), and what Script is told.
func dialects(names string) []bool {
	var l []bool
	for _, d := range strings.Split(names, "") {
		l = append(l, d == "b")
	}
	return l
}

// made: what is read of a script.
func made(t *testing.T, s string, bash bool) api.Cmd {
	t.Helper()
	c, n, e := parse.Script(s, bash)
	if e != api.OK {
		t.Fatalf("%q, %v: not read: %d, %d", s, bash, n, e)
	}
	return c
}

// comesBack asks that what Script tells of a command is a text of which parse makes it, or the error that there is none; did it tell a text?
func comesBack(t *testing.T, c api.Cmd, bash bool) (string, bool) {
	t.Helper()
	s, e := Script(c, bash)
	if e != api.OK {
		if s != "" || e != api.ErrPlain && e != api.ErrLong {
			t.Errorf("P15.1: Script of %v, %v: %q, %d", c, bash, s, e)
		}
		return "", false
	}
	d, n, e := parse.Script(s, bash)
	if e != api.OK || n != len(s) || !parse.Same(Bare(c), Bare(d)) {
		t.Errorf("P15.1: Script of %v, %v, is %q, of which parse makes %v, %d, %d", c, bash, s, d, n, e)
	}
	return s, true
}

// is asks for a canonical text, that parse makes what it should of it, and that it is its own.
func is(t *testing.T, s string, bash bool, want string) {
	t.Helper()
	got, n, e := Canon(s, bash)
	if got != want || n != 0 || e != api.OK {
		t.Errorf("P15.1: Canon(%q, %v): %q, %d, %d, not %q", s, bash, got, n, e, want)
		return
	}
	if again, n, e := Canon(want, bash); again != want || n != 0 || e != api.OK {
		t.Errorf("P15.3: Canon(%q, %v): %q, %d, %d", want, bash, again, n, e)
	}
	if back, _ := comesBack(t, made(t, s, bash), bash); back != want {
		t.Errorf("P15.1: Script of %q, %v: %q", s, bash, back)
	}
}

// none asks that no text makes the command, in those dialects.
func noText(t *testing.T, what string, c api.Cmd, names string) {
	t.Helper()
	for _, bash := range dialects(names) {
		if s, e := Script(c, bash); s != "" || e != api.ErrPlain {
			t.Errorf("P15.1: Script of %s, %v: %q, %d, not %d", what, bash, s, e, api.ErrPlain)
		}
	}
}

// tells asks for the text of a command, in those dialects.
func tells(t *testing.T, what string, c api.Cmd, names string, want string) {
	t.Helper()
	for _, bash := range dialects(names) {
		if s, ok := comesBack(t, c, bash); s != want || !ok {
			t.Errorf("P15.1: Script of %s, %v: %q, %v, not %q", what, bash, s, ok, want)
		}
	}
}

// bareText: text that is not quoted; quote: text that is.
func bareText(s string) api.Part { return api.Part{Kind: text, Text: s} }

func quote(s string) api.Part { return api.Part{Kind: text, Text: s, Quoted: true} }

// param: a parameter; inQuote: the part, quoted.
func param(name, op string, l ...api.Part) api.Part {
	return api.Part{Kind: parameter, Name: name, Op: op, Word: l}
}

func inQuote(p api.Part) api.Part {
	p.Quoted = true
	return p
}

// run: a list part of commands.
func run(l ...api.Cmd) api.Part { return api.Part{Kind: list, List: l} }

func word(l ...api.Part) api.Word { return api.Word{Parts: l} }

// words: words that are nothing but text.
func words(l ...string) []api.Word {
	var out []api.Word
	for _, s := range l {
		out = append(out, word(bareText(s)))
	}
	return out
}

// call: a simple command of words of text alone; says: of words.
func call(l ...string) api.Cmd { return api.Cmd{Kind: simple, Words: words(l...)} }

func says(l ...api.Word) api.Cmd { return api.Cmd{Kind: simple, Words: l} }

// of: a command of that kind, of others.
func of(kind int, l ...api.Cmd) api.Cmd { return api.Cmd{Kind: kind, Kids: l} }

// twin: a copy of it, that shares nothing with it.
func twin[T any](x T) T {
	return reflectCopy(reflect.ValueOf(x)).Interface().(T)
}

func reflectCopy(v reflect.Value) reflect.Value {
	out := reflect.New(v.Type()).Elem()
	out.Set(v)
	switch v.Kind() {
	case reflect.Struct:
		for i := range v.NumField() {
			out.Field(i).Set(reflectCopy(v.Field(i)))
		}
	case reflect.String:
		out.SetString(strings.Clone(v.String()))
	case reflect.Slice:
		if v.Len() > 0 {
			out.Set(reflect.MakeSlice(v.Type(), v.Len(), v.Len()))
		}
		for i := range v.Len() {
			out.Index(i).Set(reflectCopy(v.Index(i)))
		}
	}
	return out
}
