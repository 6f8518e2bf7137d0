package order_test

import (
	"math/rand"
	"slices"
	"testing"

	"dialtone/api"
	"dialtone/order"
)

// contains reports whether all pairs of l are pairs of o.
func contains(o api.Order, l [][2]int) bool {
	return !slices.ContainsFunc(l, func(p [2]int) bool { return !slices.Contains(o.Pairs, p) })
}

func TestP7_3Reduction(t *testing.T) {
	some(85, 2000, func(r *rand.Rand, o api.Order) {
		if !valid(o) {
			return
		}
		closure, _ := order.Close(o)
		least, _ := order.Reduce(o)
		if again, err := order.Close(least); err != api.OK || !sameOrder(again, closure) {
			t.Fatal(o, least, again)
		}
		if again, err := order.Close(closure); err != api.OK || !sameOrder(again, closure) {
			t.Fatal(o, closure, again)
		}
		if again, err := order.Reduce(closure); err != api.OK || !sameOrder(again, least) {
			t.Fatal(o, closure, again)
		}
		if !contains(o, least.Pairs) || !contains(closure, o.Pairs) {
			t.Fatal(o, least, closure)
		}
		for _, p := range least.Pairs {
			for _, from := range []api.Order{least, closure, o} {
				if rest, err := order.Close(without(from, p)); err != api.OK || sameOrder(rest, closure) {
					t.Fatal(o, p, rest)
				}
			}
		}
	})
}

func TestP7_3AllWithTheSameClosure(t *testing.T) {
	for n := range 5 {
		least := map[[16]bool]api.Order{}
		all(n, func(o api.Order) {
			if !valid(o) {
				return
			}
			var key [16]bool
			for _, p := range closed(o) {
				key[4*p[0]+p[1]] = true
			}
			if _, ok := least[key]; !ok {
				least[key], _ = order.Reduce(o)
			}
			if same, err := order.Reduce(o); err != api.OK || !sameOrder(same, least[key]) || !contains(o, same.Pairs) {
				t.Fatal(o, same, least[key])
			}
		})
		// so many partial orders of 0 to 4 things there are
		if want := []int{1, 1, 3, 19, 219}[n]; len(least) != want {
			t.Error(n, len(least))
		}
	}
}

func TestP7_3RepeatedPairs(t *testing.T) {
	r := rand.New(rand.NewSource(86))
	for range 2000 {
		o := sound(r, 2+r.Intn(7), r.Intn(15))
		more := with(o, o.Pairs...)
		r.Shuffle(len(more.Pairs), func(i int, j int) { more.Pairs[i], more.Pairs[j] = more.Pairs[j], more.Pairs[i] })
		closure, _ := order.Close(o)
		least, _ := order.Reduce(o)
		if again, err := order.Close(more); err != api.OK || !sameOrder(again, closure) {
			t.Fatal(o, again)
		}
		if again, err := order.Reduce(more); err != api.OK || !sameOrder(again, least) {
			t.Fatal(o, again)
		}
	}
}

func TestP7_6Cycles(t *testing.T) {
	lengths := map[int]int{}
	some(87, 3000, func(r *rand.Rand, o api.Order) {
		l, found := order.Cycle(o)
		if order.Valid(o) == found || found != (len(l) > 0) {
			t.Fatal(o, l, found)
		}
		if !found {
			return
		}
		lengths[len(l)]++
		if !isCycle(o, l) {
			t.Fatal(o, l)
		}
		named := api.Order{N: o.N}
		for i, a := range l {
			named.Pairs = append(named.Pairs, [2]int{a, l[(i+1)%len(l)]})
		}
		for _, p := range named.Pairs {
			if isCycle(without(o, p), l) || !order.Valid(without(named, p)) {
				t.Fatal(o, l, p)
			}
			if again, ok := order.Cycle(without(o, p)); ok && slices.Equal(again, l) {
				t.Fatal(o, l, p)
			}
		}
	})
	if lengths[2] < 500 || lengths[3] < 200 || lengths[4] < 10 {
		t.Error(lengths)
	}
}

func TestP7_6LongCycles(t *testing.T) {
	r := rand.New(rand.NewSource(88))
	lengths := map[int]int{}
	for range 2000 {
		// a ring of some of the things, and pairs among all of them
		n := 2 + r.Intn(7)
		o, names := api.Order{N: 8}, r.Perm(8)
		for i := range n {
			o.Pairs = append(o.Pairs, [2]int{names[i], names[(i+1)%n]})
		}
		o = with(o, sound(r, 8, r.Intn(4)).Pairs...)
		l, found := order.Cycle(o)
		want, _ := cycle(o)
		if !found || len(l) > n || !isCycle(o, l) || !slices.Equal(l, want) || order.Valid(o) {
			t.Fatal(o, l, found, want)
		}
		lengths[len(l)]++
	}
	for k := 2; k <= 8; k++ {
		if lengths[k] < 50 {
			t.Error(lengths)
		}
	}
}
