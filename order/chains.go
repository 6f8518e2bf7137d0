package order

import "dialtone/api"

// longest returns, of the lists whose things are in s, and in the sets of all things before
// them in the list, the first one of those with the most things.
func longest(s set, then sets) []int {
	var among func(s set) []int
	among = func(s set) []int {
		var best []int
		for a := range s.things() {
			if rest := among(s & then[a]); len(rest) >= len(best) {
				best = append([]int{a}, rest...)
			}
		}
		return best
	}
	return among(s)
}

// Levels returns the level of each thing of o.
func Levels(o api.Order) ([]int, api.Errno) {
	before, ok := closure(o)
	if !ok {
		return nil, api.ErrOrder
	}
	var levels []int
	for a := range o.N {
		levels = append(levels, len(longest(before[a], before)))
	}
	return levels, api.OK
}

// Chain returns the first one of the chains with the most things.
func Chain(o api.Order) ([]int, api.Errno) {
	before, ok := closure(o)
	if !ok {
		return nil, api.ErrOrder
	}
	return longest(first(o.N), before.turned()), api.OK
}

// Antichain returns the first one of the antichains with the most things.
func Antichain(o api.Order) ([]int, api.Errno) {
	before, ok := closure(o)
	if !ok {
		return nil, api.ErrOrder
	}
	after := before.turned()
	var then sets
	for a := range o.N {
		greater := first(o.N) &^ first(a+1)
		then[a] = greater &^ before[a] &^ after[a]
	}
	return longest(first(o.N), then), api.OK
}

// Cover returns a cover of o with the fewest chains.
func Cover(o api.Order) ([][]int, api.Errno) {
	before, ok := closure(o)
	if !ok {
		return nil, api.ErrOrder
	}
	follower := followers(o.N, before)
	begins := first(o.N)
	for _, s := range follower {
		begins &^= s
	}
	var cover [][]int
	for a := range begins.things() {
		chain := []int{a}
		for follower[a] != 0 {
			a = follower[a].least()
			chain = append(chain, a)
		}
		cover = append(cover, chain)
	}
	return cover, api.OK
}

// followers returns for each thing the one that follows it in its chain of a cover, or an
// empty set if there is none. As many things as possible follow another one, so that the
// chains are as few as possible.
func followers(n int, before sets) sets {
	var follower sets
	var tried set
	// A thing can follow one that another thing follows if that can follow a further one.
	var place func(b int) bool
	place = func(b int) bool {
		for a := range before[b].things() {
			if tried.has(a) {
				continue
			}
			tried |= only(a)
			if follower[a] == 0 || place(follower[a].least()) {
				follower[a] = only(b)
				return true
			}
		}
		return false
	}
	for b := range n {
		tried = 0
		place(b)
	}
	return follower
}
