package order_test

import (
	"math/rand"
	"slices"
	"testing"

	"dialtone/api"
	"dialtone/order"
)

// comparable is what the chapter says of comparable things.
func comparable(o api.Order, a int, b int) bool {
	return comes(o, a, b) || comes(o, b, a)
}

// isChain is what the chapter says of chains.
func isChain(o api.Order, l []int) bool {
	for i := 1; i < len(l); i++ {
		if !comes(o, l[i-1], l[i]) {
			return false
		}
	}
	return true
}

// isCover is what the chapter says of covers.
func isCover(o api.Order, cover [][]int) bool {
	for _, c := range cover {
		if len(c) == 0 || !isChain(o, c) {
			return false
		}
	}
	things := slices.Concat(cover...)
	slices.Sort(things)
	return slices.Equal(things, counted(o.N))
}

// chains calls use with all chains, in their order (each one before the longer ones that
// begin with it).
func chains(o api.Order, use func(l []int)) {
	var from func(l []int)
	from = func(l []int) {
		use(l)
		for a := range o.N {
			if len(l) == 0 || comes(o, l[len(l)-1], a) {
				from(append(slices.Clone(l), a))
			}
		}
	}
	from(nil)
}

// antichains calls use with all antichains, in no particular order.
func antichains(o api.Order, use func(l []int)) {
	for s := range 1 << o.N {
		var l []int
		is := true
		for a := range o.N {
			if s>>a&1 == 0 {
				continue
			}
			is = is && !slices.ContainsFunc(l, func(b int) bool { return comparable(o, a, b) })
			l = append(l, a)
		}
		if is {
			use(l)
		}
	}
}

// fewest returns the least number of chains of a cover, by putting each thing into each
// chain that has nothing to which it is not comparable, or into one of its own.
func fewest(o api.Order) int {
	best := o.N
	var place func(a int, parts [][]int)
	place = func(a int, parts [][]int) {
		if a == o.N {
			best = min(best, len(parts))
			return
		}
		for i, part := range parts {
			if !slices.ContainsFunc(part, func(b int) bool { return !comparable(o, a, b) }) {
				changed := slices.Clone(parts)
				changed[i] = append(slices.Clone(part), a)
				place(a+1, changed)
			}
		}
		place(a+1, append(slices.Clone(parts), []int{a}))
	}
	place(0, nil)
	return best
}

// checkChains compares what the functions say with all chains, antichains and covers.
func checkChains(t *testing.T, o api.Order) {
	t.Helper()
	levels, chain := make([]int, o.N), []int(nil)
	chains(o, func(l []int) {
		if len(l) > 0 {
			levels[l[len(l)-1]] = max(levels[l[len(l)-1]], len(l)-1)
		}
		if len(l) > len(chain) {
			chain = l
		}
	})
	var antichain []int
	antichains(o, func(l []int) {
		if len(l) > len(antichain) || len(l) == len(antichain) && slices.Compare(l, antichain) < 0 {
			antichain = l
		}
	})
	if l, err := order.Levels(o); err != api.OK || !slices.Equal(l, levels) {
		t.Fatal(o, l, err, levels)
	}
	if l, err := order.Chain(o); err != api.OK || !slices.Equal(l, chain) {
		t.Fatal(o, l, err, chain)
	}
	if l, err := order.Antichain(o); err != api.OK || !slices.Equal(l, antichain) {
		t.Fatal(o, l, err, antichain)
	}
	if c, err := order.Cover(o); err != api.OK || !isCover(o, c) || len(c) != fewest(o) {
		t.Fatal(o, c, err, fewest(o))
	}
}

func TestP7_1Chains(t *testing.T) {
	some(90, 300, func(r *rand.Rand, o api.Order) {
		if valid(o) {
			checkChains(t, o)
		}
	})
}

func TestP7_1ChainsOfEight(t *testing.T) {
	r := rand.New(rand.NewSource(91))
	for k := range 29 {
		for range 10 {
			checkChains(t, sound(r, 8, k))
		}
	}
}

func TestP7_1ParticularChains(t *testing.T) {
	for i, x := range []struct {
		o                        api.Order
		levels, chain, antichain []int
		cover                    int
	}{
		{api.Order{}, nil, nil, nil, 0},
		{api.Order{N: 1}, []int{0}, []int{0}, []int{0}, 1},
		{api.Order{N: 3}, []int{0, 0, 0}, []int{0}, []int{0, 1, 2}, 3},
		{api.Order{N: 8}, make([]int, 8), []int{0}, counted(8), 8},
		{total(8), counted(8), counted(8), []int{0}, 1},
		{api.Order{N: 4, Pairs: [][2]int{{3, 2}, {2, 1}, {1, 0}}}, []int{3, 2, 1, 0}, []int{3, 2, 1, 0}, []int{0}, 1},
		// a way that was taken must be taken back
		{api.Order{N: 4, Pairs: [][2]int{{0, 2}, {0, 3}, {1, 2}}}, []int{0, 0, 1, 1}, []int{0, 2}, []int{0, 1}, 2},
		{api.Order{N: 4, Pairs: [][2]int{{0, 2}, {1, 2}, {1, 3}}}, []int{0, 0, 1, 1}, []int{0, 2}, []int{0, 1}, 2},
		// the chains of the only two need a pair that has something in between
		{api.Order{N: 5, Pairs: [][2]int{{0, 2}, {1, 2}, {2, 3}, {2, 4}}}, []int{0, 0, 1, 2, 2}, []int{0, 2, 3}, []int{0, 1}, 2},
		// the longest chain begins with a great thing, and so does the largest antichain
		{api.Order{N: 5, Pairs: [][2]int{{0, 2}, {4, 3}, {3, 1}}}, []int{0, 2, 1, 1, 0}, []int{4, 3, 1}, []int{0, 1}, 2},
		{api.Order{N: 4, Pairs: [][2]int{{0, 1}, {0, 2}, {0, 3}}}, []int{0, 1, 1, 1}, []int{0, 1}, []int{1, 2, 3}, 3},
	} {
		levels, e := order.Levels(x.o)
		chain, f := order.Chain(x.o)
		antichain, g := order.Antichain(x.o)
		cover, h := order.Cover(x.o)
		if e != api.OK || f != api.OK || g != api.OK || h != api.OK {
			t.Error(i, e, f, g, h)
		}
		if !slices.Equal(levels, x.levels) || !slices.Equal(chain, x.chain) || !slices.Equal(antichain, x.antichain) {
			t.Error(i, levels, chain, antichain)
		}
		if len(cover) != x.cover || !isCover(x.o, cover) {
			t.Error(i, cover)
		}
	}
}

// unordered reports whether no two things of l are comparable.
func unordered(o api.Order, l []int) bool {
	for i, a := range l {
		for _, b := range l[:i] {
			if order.Before(o, a, b) || order.Before(o, b, a) {
				return false
			}
		}
	}
	return true
}

func TestP7_4Mirsky(t *testing.T) {
	some(92, 2000, func(r *rand.Rand, o api.Order) {
		if !valid(o) {
			return
		}
		chain, _ := order.Chain(o)
		levels, _ := order.Levels(o)
		rows := map[int][]int{}
		for a, level := range levels {
			rows[level] = append(rows[level], a)
		}
		if len(rows) != len(chain) || !isChain(o, chain) {
			t.Fatal(o, chain, levels)
		}
		for level := range len(chain) {
			if len(rows[level]) == 0 || !unordered(o, rows[level]) {
				t.Fatal(o, levels, level)
			}
		}
		for a := range o.N {
			for b := range o.N {
				if order.Before(o, a, b) && levels[a] >= levels[b] {
					t.Fatal(o, levels, a, b)
				}
			}
		}
	})
}

func TestP7_5Dilworth(t *testing.T) {
	some(93, 2000, func(r *rand.Rand, o api.Order) {
		if !valid(o) {
			return
		}
		antichain, _ := order.Antichain(o)
		cover, _ := order.Cover(o)
		if len(antichain) != len(cover) || !unordered(o, antichain) || !slices.IsSorted(antichain) || !isCover(o, cover) {
			t.Fatal(o, antichain, cover)
		}
	})
}

func TestP7_5NoneIsBetter(t *testing.T) {
	some(94, 200, func(r *rand.Rand, o api.Order) {
		if !valid(o) {
			return
		}
		antichain, _ := order.Antichain(o)
		cover, _ := order.Cover(o)
		antichains(o, func(l []int) {
			if len(l) > len(antichain) || len(l) > len(cover) {
				t.Fatal(o, antichain, l)
			}
		})
		if n := fewest(o); n < len(cover) || n < len(antichain) {
			t.Fatal(o, cover, n)
		}
	})
}
