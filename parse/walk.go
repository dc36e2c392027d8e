package parse

import "cowrie/api"

// every does it with all of the list in turn, until it answers false; did it go through?
func every[T any](l []T, do func(*T) bool) bool {
	for i := range l {
		if !do(&l[i]) {
			return false
		}
	}
	return true
}

// within does it with the commands right within, until it answers false; did it go through?
func within(c *api.Cmd, do func(*api.Cmd) bool) bool {
	return every(c.Kids, do) &&
		every(c.Cases, func(k *api.Case) bool { return k.Body.Kind == none || do(&k.Body) }) &&
		own(c, func(w *api.Word) bool { return listed(w.Parts, do) })
}

// listed does it likewise with the commands that parts have.
func listed(l []api.Part, do func(*api.Cmd) bool) bool {
	return every(l, func(p *api.Part) bool {
		return every(p.List, do) && listed(p.Word, do) && listed(p.More, do)
	})
}

// own does it likewise with a command's own words.
func own(c *api.Cmd, do func(*api.Word) bool) bool {
	return every(c.Words, do) &&
		every(c.Assigns, func(a *api.Assign) bool { return do(&a.Word) && every(a.List, do) }) &&
		every(c.Redirs, func(r *api.Redir) bool { return do(&r.Word) }) &&
		every(c.Cases, func(k *api.Case) bool { return every(k.Pats, do) }) &&
		asked(c.Conds, do)
}

// asked does it likewise with the words of conditions.
func asked(l []api.Cond, do func(*api.Word) bool) bool {
	return every(l, func(x *api.Cond) bool { return every(x.Words, do) && asked(x.Kids, do) })
}

// deep counts up to most, and looks no further.
func deep(c *api.Cmd, most int) int {
	below := 0
	if most > 1 {
		within(c, func(k *api.Cmd) bool {
			below = max(below, deep(k, most-1))
			return below < most-1
		})
	}
	return below + 1
}
