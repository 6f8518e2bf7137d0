package order_test

import (
	"math"
	"math/rand"
	"slices"
	"testing"

	"dialtone/api"
	"dialtone/order"
)

// example returns the order of the chapter's examples.
func example() api.Order {
	return api.Order{N: 5, Pairs: [][2]int{{0, 2}, {1, 2}, {2, 3}, {0, 3}, {1, 4}}}
}

// with returns o with further pairs.
func with(o api.Order, pairs ...[2]int) api.Order {
	return api.Order{N: o.N, Pairs: append(slices.Clone(o.Pairs), pairs...)}
}

// without returns o without a pair, however often it is repeated.
func without(o api.Order, p [2]int) api.Order {
	rest := slices.DeleteFunc(slices.Clone(o.Pairs), func(q [2]int) bool { return q == p })
	return api.Order{N: o.N, Pairs: rest}
}

// sameOrder reports whether two orders have the same N, and the same list of pairs.
func sameOrder(a api.Order, b api.Order) bool {
	return a.N == b.N && slices.Equal(a.Pairs, b.Pairs)
}

// total returns the order of n things, each of which comes before all greater ones.
func total(n int) api.Order {
	o := api.Order{N: n}
	for b := range n {
		for a := range b {
			o.Pairs = append(o.Pairs, [2]int{a, b})
		}
	}
	return o
}

// ring returns the order of n things, each of which has a pair with the next one, and the
// last one with the first one.
func ring(n int) api.Order {
	o := api.Order{N: n}
	for a := range n {
		o.Pairs = append(o.Pairs, [2]int{a, (a + 1) % n})
	}
	return o
}

// counted returns the numbers from 0 up to n, without n.
func counted(n int) []int {
	var l []int
	for i := range n {
		l = append(l, i)
	}
	return l
}

// formed is what the chapter says of formed orders.
func formed(o api.Order) bool {
	ok := o.N >= 0 && o.N <= 8 && len(o.Pairs) <= 28
	for _, p := range o.Pairs {
		ok = ok && p[0] != p[1] && p[0] >= 0 && p[1] >= 0 && p[0] < o.N && p[1] < o.N
	}
	return ok
}

// comes is what the chapter says of before, for formed orders with cycles, too: it follows
// the pairs from a, and reports whether it comes to b.
func comes(o api.Order, a int, b int) bool {
	var been [8]bool
	var from func(a int) bool
	from = func(a int) bool {
		for _, p := range o.Pairs {
			if p[0] != a || been[p[1]] {
				continue
			}
			been[p[1]] = true
			if p[1] == b || from(p[1]) {
				return true
			}
		}
		return false
	}
	return from(a)
}

// valid is what the chapter says of valid orders.
func valid(o api.Order) bool {
	if !formed(o) {
		return false
	}
	for a := range o.N {
		if comes(o, a, a) {
			return false
		}
	}
	return true
}

// isCycle is what the chapter says of cycles.
func isCycle(o api.Order, l []int) bool {
	if len(l) < 2 {
		return false
	}
	for i, a := range l {
		if !slices.Contains(o.Pairs, [2]int{a, l[(i+1)%len(l)]}) {
			return false
		}
	}
	return true
}

// cycle goes through all lists of 2, 3, ... things in their order, and returns the first
// one that is a cycle.
func cycle(o api.Order) ([]int, bool) {
	var from func(l []int, k int) ([]int, bool)
	from = func(l []int, k int) ([]int, bool) {
		if len(l) == k {
			return l, isCycle(o, l)
		}
		for a := range o.N {
			if len(l) > 0 && !slices.Contains(o.Pairs, [2]int{l[len(l)-1], a}) {
				continue
			}
			if found, ok := from(append(slices.Clone(l), a), k); ok {
				return found, true
			}
		}
		return nil, false
	}
	for k := 2; k <= o.N; k++ {
		if l, ok := from(nil, k); ok {
			return l, true
		}
	}
	return nil, false
}

// pairs returns all pairs (a, b) of things of o for which keep holds, ascending.
func pairs(o api.Order, keep func(a int, b int) bool) [][2]int {
	var l [][2]int
	for a := range o.N {
		for b := range o.N {
			if keep(a, b) {
				l = append(l, [2]int{a, b})
			}
		}
	}
	return l
}

// closed returns the pairs that the chapter says of Close.
func closed(o api.Order) [][2]int {
	return pairs(o, func(a int, b int) bool { return comes(o, a, b) })
}

// reduced returns the pairs that the chapter says of Reduce.
func reduced(o api.Order) [][2]int {
	return pairs(o, func(a int, b int) bool {
		for c := range o.N {
			if comes(o, a, c) && comes(o, c, b) {
				return false
			}
		}
		return comes(o, a, b)
	})
}

// random returns an order of n things with k pairs, of which any can be repeated, and which
// can have cycles.
func random(r *rand.Rand, n int, k int) api.Order {
	o := api.Order{N: n}
	for len(o.Pairs) < k && n > 1 {
		if a, b := r.Intn(n), r.Intn(n); a != b {
			o.Pairs = append(o.Pairs, [2]int{a, b})
		}
	}
	return o
}

// sound returns a valid order of n things with k pairs: all of them agree with one line.
func sound(r *rand.Rand, n int, k int) api.Order {
	o, line := random(r, n, k), r.Perm(n)
	for i, p := range o.Pairs {
		if line[p[0]] > line[p[1]] {
			o.Pairs[i] = [2]int{p[1], p[0]}
		}
	}
	return o
}

// all calls use with all orders of n things without repeated pairs.
func all(n int, use func(o api.Order)) {
	every := pairs(api.Order{N: n}, func(a int, b int) bool { return a != b })
	for s := range 1 << len(every) {
		o := api.Order{N: n}
		for i, p := range every {
			if s>>i&1 == 1 {
				o.Pairs = append(o.Pairs, p)
			}
		}
		use(o)
	}
}

// some calls use with all orders of up to four things, and with others of up to eight, many
// of them with cycles.
func some(seed int64, times int, use func(r *rand.Rand, o api.Order)) {
	r := rand.New(rand.NewSource(seed))
	for n := range 5 {
		all(n, func(o api.Order) { use(r, o) })
	}
	for range times {
		use(r, random(r, r.Intn(9), r.Intn(29)))
		use(r, random(r, 4+r.Intn(5), r.Intn(10)))
		use(r, someSound(r))
	}
}

// someSound returns a valid order of up to eight things.
func someSound(r *rand.Rand) api.Order {
	n := r.Intn(9)
	return sound(r, n, r.Intn([]int{1, 1, 4, 7, 10, 13, 16, 22, 29}[n]))
}

// checkNothing checks that all functions answer as they do for an o that is not valid, and
// that Cycle finds nothing if it is not even formed.
func checkNothing(t *testing.T, o api.Order) {
	t.Helper()
	if order.Valid(o) || order.Formed(o) != formed(o) {
		t.Error("valid or formed", o)
	}
	if l, ok := order.Cycle(o); ok != formed(o) || !ok && len(l) != 0 {
		t.Error("Cycle", o, l, ok)
	}
	for a := -1; a < 10; a++ {
		for b := -1; b < 10; b++ {
			if order.Before(o, a, b) {
				t.Error("Before", o, a, b)
			}
		}
	}
	for n := range 10 {
		if order.IsLine(o, counted(n)) {
			t.Error("IsLine", o, n)
		}
	}
	if c, err := order.Close(o); err != api.ErrOrder || !sameOrder(c, api.Order{}) {
		t.Error("Close", o, c, err)
	}
	if c, err := order.Reduce(o); err != api.ErrOrder || !sameOrder(c, api.Order{}) {
		t.Error("Reduce", o, c, err)
	}
	if n, err := order.Lines(o); err != api.ErrOrder || n != 0 {
		t.Error("Lines", o, n, err)
	}
	if c, err := order.Cover(o); err != api.ErrOrder || len(c) != 0 {
		t.Error("Cover", o, c, err)
	}
	for i, f := range []func(o api.Order) ([]int, api.Errno){order.Prefixes, order.Line, order.Levels, order.Chain, order.Antichain} {
		if l, err := f(o); err != api.ErrOrder || len(l) != 0 {
			t.Error("list", i, o, l, err)
		}
	}
}

func TestP7_1NotFormed(t *testing.T) {
	for _, n := range []int{-1, -8, 9, 10, 64, math.MaxInt, math.MinInt} {
		checkNothing(t, api.Order{N: n})
		checkNothing(t, api.Order{N: n, Pairs: [][2]int{{0, 1}}})
		checkNothing(t, api.Order{N: n, Pairs: [][2]int{{0, 1}, {1, 0}}})
	}
	for _, p := range [][2]int{
		{0, 0}, {1, 1}, {4, 4}, {-1, 0}, {0, -1}, {5, 0}, {0, 5}, {-1, -1}, {5, 5}, {-1, 5}, {7, 8},
		{0, math.MaxInt}, {math.MaxInt, 0}, {0, math.MinInt}, {math.MinInt, 0}, {64, 0}, {0, 64},
	} {
		checkNothing(t, with(example(), p))
		checkNothing(t, with(api.Order{N: 5, Pairs: [][2]int{p}}, example().Pairs...))
		checkNothing(t, with(example(), [2]int{3, 1}, p))
	}
	checkNothing(t, api.Order{Pairs: [][2]int{{0, 0}}})
	checkNothing(t, api.Order{Pairs: [][2]int{{0, 1}}})
	checkNothing(t, api.Order{N: 1, Pairs: [][2]int{{0, 1}}})
	checkNothing(t, api.Order{N: 8, Pairs: [][2]int{{0, 8}}})
	for _, k := range []int{29, 30, 57, 1000} {
		checkNothing(t, api.Order{N: 8, Pairs: slices.Repeat([][2]int{{0, 7}}, k)})
		checkNothing(t, api.Order{N: 2, Pairs: slices.Repeat([][2]int{{0, 1}, {1, 0}}, k)})
	}
}

func TestP7_1NotValid(t *testing.T) {
	checkNothing(t, with(example(), [2]int{3, 1}))
	checkNothing(t, with(example(), [2]int{2, 0}))
	checkNothing(t, with(example(), [2]int{4, 1}))
	for n := 2; n <= 8; n++ {
		checkNothing(t, ring(n))
		checkNothing(t, api.Order{N: 8, Pairs: ring(n).Pairs})
	}
	checkNothing(t, api.Order{N: 8, Pairs: slices.Repeat([][2]int{{6, 7}, {7, 6}}, 14)})
}

func TestP7_1Formed(t *testing.T) {
	for i, o := range []api.Order{
		{}, {Pairs: [][2]int{}}, {N: 1}, {N: 8}, example(), total(8),
		{N: 8, Pairs: slices.Repeat([][2]int{{0, 7}}, 28)},
		{N: 8, Pairs: [][2]int{{7, 0}, {6, 7}}},
		{N: 2, Pairs: [][2]int{{0, 1}, {0, 1}}},
	} {
		if !order.Formed(o) || !order.Valid(o) {
			t.Error(i)
		}
		if l, ok := order.Cycle(o); ok || len(l) != 0 {
			t.Error(i, l)
		}
	}
	for n := 2; n <= 8; n++ {
		if !order.Formed(ring(n)) || order.Valid(ring(n)) {
			t.Error(n)
		}
	}
}

func TestP7_1Examples(t *testing.T) {
	o := example()
	c, err := order.Close(o)
	if err != api.OK || !sameOrder(c, api.Order{N: 5, Pairs: [][2]int{{0, 2}, {0, 3}, {1, 2}, {1, 3}, {1, 4}, {2, 3}}}) {
		t.Error(c, err)
	}
	c, err = order.Reduce(o)
	if err != api.OK || !sameOrder(c, api.Order{N: 5, Pairs: [][2]int{{0, 2}, {1, 2}, {1, 4}, {2, 3}}}) {
		t.Error(c, err)
	}
	for i, x := range []struct {
		f    func(o api.Order) ([]int, api.Errno)
		want []int
	}{
		{order.Prefixes, []int{0, 1, 2, 3, 7, 15, 18, 19, 23, 31}},
		{order.Line, []int{0, 1, 2, 3, 4}},
		{order.Levels, []int{0, 0, 1, 2, 1}},
		{order.Chain, []int{0, 2, 3}},
		{order.Antichain, []int{0, 1}},
	} {
		if l, err := x.f(o); err != api.OK || !slices.Equal(l, x.want) {
			t.Error(i, l, err)
		}
	}
	if n, err := order.Lines(o); err != api.OK || n != 7 {
		t.Error(n, err)
	}
	cover, err := order.Cover(o)
	if err != api.OK || len(cover) != 2 || !isCover(o, cover) {
		t.Error(cover, err)
	}
	if l, ok := order.Cycle(with(o, [2]int{3, 1})); !ok || !slices.Equal(l, []int{1, 2, 3}) {
		t.Error(l, ok)
	}
}

func TestP7_1Cycle(t *testing.T) {
	for i, x := range []struct {
		o    api.Order
		want []int
	}{
		{api.Order{N: 2, Pairs: [][2]int{{1, 0}, {0, 1}}}, []int{0, 1}},
		{api.Order{N: 8, Pairs: [][2]int{{7, 6}, {6, 7}}}, []int{6, 7}},
		// the fewest things first, then the least ones
		{api.Order{N: 5, Pairs: [][2]int{{0, 1}, {1, 2}, {2, 0}, {4, 3}, {3, 4}}}, []int{3, 4}},
		{api.Order{N: 5, Pairs: [][2]int{{0, 3}, {3, 1}, {1, 0}, {0, 2}, {2, 4}, {4, 0}}}, []int{0, 2, 4}},
		{api.Order{N: 4, Pairs: [][2]int{{3, 1}, {1, 3}, {2, 1}, {1, 2}}}, []int{1, 2}},
		// the same things, either way around
		{api.Order{N: 3, Pairs: [][2]int{{0, 2}, {2, 1}, {1, 0}}}, []int{0, 2, 1}},
		// 0 is not on the way back, but leads into it
		{api.Order{N: 4, Pairs: [][2]int{{0, 1}, {1, 2}, {2, 3}, {3, 1}}}, []int{1, 2, 3}},
		// at 1 the way by 2 goes on, but it takes longer
		{api.Order{N: 7, Pairs: [][2]int{{0, 1}, {1, 2}, {2, 3}, {3, 4}, {4, 0}, {1, 5}, {5, 6}, {6, 0}}}, []int{0, 1, 5, 6}},
	} {
		if l, ok := order.Cycle(x.o); !ok || !slices.Equal(l, x.want) {
			t.Error(i, l, ok)
		}
	}
	for n := 2; n <= 8; n++ {
		if l, ok := order.Cycle(ring(n)); !ok || !slices.Equal(l, counted(n)) {
			t.Error(n, l, ok)
		}
	}
}

func TestP7_1Before(t *testing.T) {
	outside := []int{-1, 5, 6, 7, 8, 63, 64, 65, math.MaxInt, math.MinInt}
	for _, u := range outside {
		for a := range 5 {
			if order.Before(example(), a, u) || order.Before(example(), u, a) || order.Before(example(), u, u) {
				t.Error(a, u)
			}
		}
	}
	for a := range 8 {
		for b := range 8 {
			if order.Before(total(8), a, b) != (a < b) || order.Before(api.Order{N: 8}, a, b) {
				t.Error(a, b)
			}
		}
	}
}

func TestP7_1Relations(t *testing.T) {
	some(71, 2000, func(r *rand.Rand, o api.Order) {
		if order.Formed(o) != formed(o) || order.Valid(o) != valid(o) {
			t.Fatal(o)
		}
		l, ok := order.Cycle(o)
		if want, is := cycle(o); ok != is || !slices.Equal(l, want) {
			t.Fatal(o, l, ok, want, is)
		}
		if !valid(o) {
			checkNothing(t, o)
			return
		}
		for a := range o.N {
			for b := range o.N {
				if order.Before(o, a, b) != comes(o, a, b) {
					t.Fatal(o, a, b)
				}
			}
		}
		if c, err := order.Close(o); err != api.OK || c.N != o.N || !slices.Equal(c.Pairs, closed(o)) {
			t.Fatal(o, c, err)
		}
		if c, err := order.Reduce(o); err != api.OK || c.N != o.N || !slices.Equal(c.Pairs, reduced(o)) {
			t.Fatal(o, c, err)
		}
	})
}

// answers returns all that the functions answer for o, in one list.
func answers(o api.Order) []int {
	var l []int
	for _, f := range []func(o api.Order) ([]int, api.Errno){order.Prefixes, order.Line, order.Levels, order.Chain, order.Antichain} {
		x, _ := f(o)
		l = append(l, x...)
	}
	for _, f := range []func(o api.Order) (api.Order, api.Errno){order.Close, order.Reduce} {
		x, _ := f(o)
		for _, p := range x.Pairs {
			l = append(l, p[0], p[1])
		}
	}
	x, _ := order.Cycle(o)
	l = append(l, x...)
	cover, _ := order.Cover(o)
	for _, x := range cover {
		l = append(l, x...)
	}
	n, _ := order.Lines(o)
	return append(l, n, len(cover))
}

// spoil writes into all memory of a slice.
func spoil[T any](l []T, value T) {
	l = l[:cap(l)]
	for i := range l {
		l[i] = value
	}
}

func TestP7_1Memory(t *testing.T) {
	some(72, 300, func(r *rand.Rand, o api.Order) {
		spare := append(make([][2]int, 0, 40), o.Pairs...)
		o.Pairs = spare
		before, want := slices.Clone(spare[:40]), answers(o)
		for _, f := range []func(o api.Order) ([]int, api.Errno){order.Prefixes, order.Line, order.Levels, order.Chain, order.Antichain} {
			l, _ := f(o)
			spoil(l, -7)
		}
		for _, f := range []func(o api.Order) (api.Order, api.Errno){order.Close, order.Reduce} {
			c, _ := f(o)
			spoil(c.Pairs, [2]int{-7, -7})
		}
		l, _ := order.Cycle(o)
		spoil(l, -7)
		line, _ := order.Line(o)
		line = append(make([]int, 0, 40), line...)
		given := slices.Clone(line[:40])
		order.IsLine(o, line)
		if !slices.Equal(line[:40], given) || !slices.Equal(spare[:40], before) || !slices.Equal(answers(o), want) {
			t.Fatal(o)
		}
	})
}

func TestP7_1CoverMemory(t *testing.T) {
	r := rand.New(rand.NewSource(73))
	for range 300 {
		o := someSound(r)
		cover, _ := order.Cover(o)
		for i, c := range cover {
			spoil(c, -7-i)
		}
		for i, c := range cover {
			for _, a := range c {
				if a != -7-i {
					t.Fatal(o, cover)
				}
			}
		}
	}
}
