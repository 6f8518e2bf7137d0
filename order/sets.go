package order

import (
	"iter"
	"math/bits"

	"dialtone/api"
)

// set is a set of things: it has the thing i exactly if its bit i is 1.
type set uint

// only returns the set of a single thing.
func only(a int) set {
	return 1 << a
}

// first returns the set of the first n things.
func first(n int) set {
	return 1<<n - 1
}

func (s set) has(a int) bool {
	return s&only(a) != 0
}

// least returns the least thing of a set that is not empty.
func (s set) least() int {
	return bits.TrailingZeros(uint(s))
}

// things yields the things of a set, ascending.
func (s set) things() iter.Seq[int] {
	return func(yield func(a int) bool) {
		for rest := s; rest != 0; rest &^= only(rest.least()) {
			if !yield(rest.least()) {
				return
			}
		}
	}
}

// sets has a set for each thing, such as that of the things that come before it.
type sets [api.MaxOrder]set

// of returns the things that are in the set of some thing of s.
func (l sets) of(s set) set {
	var union set
	for a := range s.things() {
		union |= l[a]
	}
	return union
}

// turned returns the sets that have b for a where l has a for b.
func (l sets) turned() sets {
	var t sets
	for b, s := range l {
		for a := range s.things() {
			t[a] |= only(b)
		}
	}
	return t
}

// paired returns for each thing those that stand before it in a pair of a formed order.
func paired(o api.Order) sets {
	var before sets
	for _, p := range o.Pairs {
		before[p[1]] |= only(p[0])
	}
	return before
}

// closure returns for each thing those that come before it, and whether o is valid.
func closure(o api.Order) (sets, bool) {
	if !Formed(o) {
		return sets{}, false
	}
	before := paired(o)
	for by := range o.N {
		for a := range o.N {
			if before[a].has(by) {
				before[a] |= before[by]
			}
		}
	}
	for a := range o.N {
		if before[a].has(a) {
			return sets{}, false
		}
	}
	return before, true
}
