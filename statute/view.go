package statute

import (
	"slices"

	"dialtone/api"
)

// view is a rulebook as a question sees it: with the facts and the clauses that apply, which
// are named by their indices, ascending.
type view struct {
	book    api.Rulebook
	facts   []int
	clauses []int
}

// look returns the view of c that q has, and whether both are valid.
func look(c api.Rulebook, q api.Question) (view, bool) {
	if !Valid(c) || !Asks(q) {
		return view{}, false
	}
	v := view{book: c}
	for i, f := range c.Facts {
		if f.Thing == q.Thing && has(f.Spell, q.At) && has(f.Known, q.Known) {
			v.facts = add(v.facts, i)
		}
	}
	for i, clause := range c.Clauses {
		if clause.Published <= q.Known && has(clause.Spell, q.At) && !repealed(c, i, q) {
			v.clauses = add(v.clauses, i)
		}
	}
	return v, true
}

// repealed reports whether a repeal of the clause i is known, and in force, for q.
func repealed(c api.Rulebook, i int, q api.Question) bool {
	return slices.ContainsFunc(c.Repeals, func(r api.Repeal) bool {
		return r.Clause == i && r.Published <= q.Known && r.From <= q.At
	})
}

// saying returns the facts that apply and say n.
func (v view) saying(n int) []int {
	return which(v.facts, func(i int) bool { return v.book.Facts[i].Says == n })
}

// giving returns the clauses that apply and give n.
func (v view) giving(n int) []int {
	return which(v.clauses, func(i int) bool { return v.book.Clauses[i].Gives == n })
}

// which returns the numbers of l that are wanted.
func which(l []int, wanted func(n int) bool) []int {
	var found []int
	for _, n := range l {
		if wanted(n) {
			found = add(found, n)
		}
	}
	return found
}

// add returns the ascending list of the numbers of l and further ones, each once.
func add(l []int, numbers ...int) []int {
	l = append(l, numbers...)
	slices.Sort(l)
	return slices.Compact(l)
}
