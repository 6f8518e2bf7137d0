package order

import (
	"iter"

	"dialtone/api"
)

// prefixes yields the prefixes of an order of n things, ascending.
func prefixes(n int, before sets) iter.Seq[set] {
	return func(yield func(p set) bool) {
		for p := range first(n) + 1 {
			if before.of(p)&^p == 0 && !yield(p) {
				return
			}
		}
	}
}

// next returns the things that can follow the things of the prefix p in a line.
func next(n int, before sets, p set) set {
	var s set
	for a := range (first(n) &^ p).things() {
		if before[a]&^p == 0 {
			s |= only(a)
		}
	}
	return s
}

// Prefixes returns all prefixes of o, ascending.
func Prefixes(o api.Order) ([]int, api.Errno) {
	before, ok := closure(o)
	if !ok {
		return nil, api.ErrOrder
	}
	var l []int
	for p := range prefixes(o.N, before) {
		l = append(l, int(p))
	}
	return l, api.OK
}

// Line returns the first one of the lines of o.
func Line(o api.Order) ([]int, api.Errno) {
	before, ok := closure(o)
	if !ok {
		return nil, api.ErrOrder
	}
	var l []int
	var p set
	for range o.N {
		a := next(o.N, before, p).least()
		l = append(l, a)
		p |= only(a)
	}
	return l, api.OK
}

// IsLine reports whether o is valid, and l a line of it.
func IsLine(o api.Order, l []int) bool {
	before, ok := closure(o)
	if !ok || len(l) != o.N {
		return false
	}
	var p set
	for _, a := range l {
		if !isThing(o, a) || !next(o.N, before, p).has(a) {
			return false
		}
		p |= only(a)
	}
	return true
}

// Lines returns the number of lines of o.
func Lines(o api.Order) (int, api.Errno) {
	before, ok := closure(o)
	if !ok {
		return 0, api.ErrOrder
	}
	// The lines of a prefix end with any of its things without which it is a prefix, too:
	// that one has been yielded earlier, while a set that is no prefix has no lines here.
	lines := map[set]int{0: 1}
	for p := range prefixes(o.N, before) {
		for last := range p.things() {
			lines[p] += lines[p&^only(last)]
		}
	}
	return lines[first(o.N)], api.OK
}
