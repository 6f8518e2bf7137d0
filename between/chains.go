package between

import (
	"iter"
	"slices"

	"dialtone/api"
)

// table has in its row u, at v, the least sum of the chains from the variable u to the
// variable v of at most some number of bounds, or Far if there is none.
type table [][]int

// lengths yields the tables of chains of at most 0 bounds, of at most 1, and so on, up to N.
// No longer chains are needed, since each of them meets some variable twice on its way: what
// lies between is a contradiction with fewer bounds, or it can be left out, and the sum is
// not greater.
func lengths(b api.Between) iter.Seq[table] {
	return func(yield func(t table) bool) {
		empty := emptyChains(b.N)
		t := empty()
		for range b.N + 1 {
			if !yield(t) {
				return
			}
			longer := empty()
			extend(b, t, longer)
			t = longer
		}
	}
}

// emptyChains returns a function that makes tables of n variables, each of which begins
// with the sums of the empty chains.
func emptyChains(n int) func() table {
	first := make(table, n)
	for u := range n {
		first[u] = slices.Repeat([]int{api.Far}, n)
		first[u][u] = 0
	}
	return func() table {
		t := make(table, n)
		for u := range n {
			t[u] = make([]int, n)
			copy(t[u], first[u])
		}
		return t
	}
}

// extend enters in longer the chains that a bound of b makes of those of t.
func extend(b api.Between, t table, longer table) {
	for u, row := range t {
		for _, c := range b.Bounds {
			if row[c.From] != api.Far {
				longer[u][c.To] = min(longer[u][c.To], row[c.From]+c.Most)
			}
		}
	}
}

// longest returns the table of chains of at most N bounds.
func longest(b api.Between) table {
	var last table
	for t := range lengths(b) {
		last = t
	}
	return last
}

// contradicts reports whether some variable has a chain to itself with a sum below 0.
func contradicts(t table) bool {
	for u, row := range t {
		if row[u] < 0 {
			return true
		}
	}
	return false
}

// shows reports whether l is a chain from x.From to x.To with a sum of at most x.Most.
func shows(b api.Between, x api.Bound, l []int) bool {
	if len(l) > api.MaxBounds {
		return false
	}
	end, sum := x.From, 0
	for _, i := range l {
		if i < 0 || i >= len(b.Bounds) || b.Bounds[i].From != end {
			return false
		}
		end = b.Bounds[i].To
		sum += b.Bounds[i].Most
	}
	return end == x.To && sum <= x.Most
}

// shortest returns the first one of the chains with the fewest bounds that show x, and
// whether there is such a chain of at most N bounds.
func shortest(b api.Between, x api.Bound) ([]int, bool) {
	var shorter []table
	for t := range lengths(b) {
		if t[x.From][x.To] <= x.Most {
			return follow(b, x, shorter), true
		}
		shorter = append(shorter, t)
	}
	return nil, false
}

// follow returns the first one of the chains that show x, of as many bounds as there are
// tables, bound by bound. The tables are those of all shorter chains, none of which shows x:
// so a bound begins a chain that does exactly if, by the last table, the rest can follow it.
func follow(b api.Between, x api.Bound, shorter []table) []int {
	l := make([]int, 0, len(shorter))
	for _, rest := range slices.Backward(shorter) {
		i := slices.IndexFunc(b.Bounds, func(c api.Bound) bool {
			return c.From == x.From && c.Most+rest[c.To][x.To] <= x.Most
		})
		l = append(l, i)
		x.From = b.Bounds[i].To
		x.Most -= b.Bounds[i].Most
	}
	return l
}
