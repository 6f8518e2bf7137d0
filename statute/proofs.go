package statute

import (
	"slices"

	"dialtone/api"
)

// none stands in a finding for the index of a fact, or of a clause, that it does not name.
const none = -1

// byFact returns the finding that n is so, as a fact says it.
func byFact(n int, fact int) api.Finding {
	return api.Finding{Says: n, Holds: true, Fact: fact, Clause: none}
}

// byClause returns the finding that n is so, as a clause gives it.
func byClause(n int, clause int) api.Finding {
	return api.Finding{Says: n, Holds: true, Fact: none, Clause: clause}
}

// notSo returns the finding that n is not so.
func notSo(n int) api.Finding {
	return api.Finding{Says: n, Fact: none, Clause: none}
}

// shown reports whether it is shown that n is so (if holds), or that it is not so. Of a
// number about which nothing was found, neither is shown.
type shown func(n int, holds bool) bool

// fulfilled reports whether all that c needs is shown to be so, and all that bars it is
// shown not to be so.
func fulfilled(c api.Clause, is shown) bool {
	return !slices.ContainsFunc(c.Needs, func(n int) bool { return !is(n, true) }) &&
		!slices.ContainsFunc(c.Bars, func(n int) bool { return !is(n, false) })
}

// excluded reports whether something that c needs is shown not to be so, or something that
// bars it is shown to be so.
func excluded(c api.Clause, is shown) bool {
	return slices.ContainsFunc(c.Needs, func(n int) bool { return is(n, false) }) ||
		slices.ContainsFunc(c.Bars, func(n int) bool { return is(n, true) })
}

// proves reports whether l is a proof whose last finding is about n.
func (v view) proves(l []api.Finding, n int) bool {
	last := -1
	for i, f := range l {
		if f.Says <= last || !v.right(f, l[:i]) {
			return false
		}
		last = f.Says
	}
	return last == n
}

// right reports whether f is right after the findings of l, which are about lesser numbers.
func (v view) right(f api.Finding, l []api.Finding) bool {
	is := func(n int, holds bool) bool {
		return slices.ContainsFunc(l, func(g api.Finding) bool { return g.Says == n && g.Holds == holds })
	}
	facts, clauses := v.saying(f.Says), v.giving(f.Says)
	switch {
	case f == notSo(f.Says):
		open := func(i int) bool { return !excluded(v.book.Clauses[i], is) }
		return len(facts) == 0 && !slices.ContainsFunc(clauses, open)
	case f == byFact(f.Says, f.Fact):
		return slices.Contains(facts, f.Fact)
	case f == byClause(f.Says, f.Clause):
		return slices.Contains(clauses, f.Clause) && fulfilled(v.book.Clauses[f.Clause], is)
	}
	return false
}

// Check reports whether l proves that holds is the answer to q.
func Check(c api.Rulebook, q api.Question, holds bool, l []api.Finding) bool {
	v, ok := look(c, q)
	return ok && v.proves(l, q.Says) && l[len(l)-1].Holds == holds
}

// Uses returns the facts and the clauses on which the proof l leans.
func Uses(c api.Rulebook, q api.Question, l []api.Finding) ([]int, []int, api.Errno) {
	v, ok := look(c, q)
	if !ok || !v.proves(l, q.Says) {
		return nil, nil, api.ErrStatute
	}
	var facts, clauses []int
	for _, f := range l {
		switch {
		case !f.Holds:
			clauses = add(clauses, v.giving(f.Says)...)
		case f.Clause == none:
			facts = add(facts, f.Fact)
		default:
			clauses = add(clauses, f.Clause)
		}
	}
	return facts, clauses, api.OK
}
