package statute

import (
	"maps"
	"slices"

	"dialtone/api"
)

// Decide returns the answer to q, and a proof of it that is not spare.
func Decide(c api.Rulebook, q api.Question) (bool, []api.Finding, api.Errno) {
	v, ok := look(c, q)
	if !ok {
		return false, nil, api.ErrStatute
	}
	l := v.needed(v.findings(q.Says), q.Says)
	return l[len(l)-1].Holds, l, api.OK
}

// findings returns a proof about n: what is found about it, and about all that was asked on
// the way.
func (v view) findings(n int) []api.Finding {
	found := map[int]api.Finding{}
	var ask func(n int, holds bool) bool
	ask = func(n int, holds bool) bool {
		f, asked := found[n]
		if !asked {
			f = v.find(n, ask)
			found[n] = f
		}
		return f.Holds == holds
	}
	ask(n, true)
	var l []api.Finding
	for _, n := range slices.Sorted(maps.Keys(found)) {
		l = append(l, found[n])
	}
	return l
}

// find returns the finding about n, by what is so of lesser numbers.
func (v view) find(n int, is shown) api.Finding {
	if facts := v.saying(n); len(facts) > 0 {
		return byFact(n, facts[0])
	}
	for _, i := range v.giving(n) {
		if fulfilled(v.book.Clauses[i], is) {
			return byClause(n, i)
		}
	}
	return notSo(n)
}

// needed returns what is left of the proof l about n when the findings that are not needed
// are left out, one by one. Those of great numbers go first: only greater numbers lean on a
// finding, so that no finding that was needed once is spare in the end.
func (v view) needed(l []api.Finding, n int) []api.Finding {
	for i := len(l) - 2; i >= 0; i-- {
		less := slices.Delete(slices.Clone(l), i, i+1)
		if v.proves(less, n) {
			l = less
		}
	}
	return l
}
