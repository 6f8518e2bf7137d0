package order_test

import (
	"math"
	"math/rand"
	"slices"
	"testing"

	"dialtone/api"
	"dialtone/order"
)

// lines returns all lines of o, in their order, by putting each thing at each place.
func lines(o api.Order) [][]int {
	var found [][]int
	var from func(l []int)
	from = func(l []int) {
		if len(l) == o.N {
			if isLine(o, l) {
				found = append(found, l)
			}
			return
		}
		for a := range o.N {
			if !slices.Contains(l, a) {
				from(append(slices.Clone(l), a))
			}
		}
	}
	from(nil)
	return found
}

// isLine is what the chapter says of lines: all things, each once, and each pair the right
// way around.
func isLine(o api.Order, l []int) bool {
	if sorted := slices.Sorted(slices.Values(l)); !slices.Equal(sorted, counted(o.N)) {
		return false
	}
	for _, p := range o.Pairs {
		if slices.Index(l, p[0]) > slices.Index(l, p[1]) {
			return false
		}
	}
	return true
}

// isPrefix is what the chapter says of prefixes.
func isPrefix(o api.Order, p int) bool {
	for b := range o.N {
		for a := range o.N {
			if p>>b&1 == 1 && p>>a&1 == 0 && comes(o, a, b) {
				return false
			}
		}
	}
	return 0 <= p && p < 1<<o.N
}

// prefixes returns all sets of things that are prefixes, ascending.
func prefixes(o api.Order) []int {
	var l []int
	for p := range 1 << o.N {
		if isPrefix(o, p) {
			l = append(l, p)
		}
	}
	return l
}

func TestP7_1Prefixes(t *testing.T) {
	some(74, 500, func(r *rand.Rand, o api.Order) {
		if !valid(o) {
			return
		}
		if l, err := order.Prefixes(o); err != api.OK || !slices.Equal(l, prefixes(o)) {
			t.Fatal(o, l, err)
		}
	})
	for n := range 9 {
		if l, err := order.Prefixes(api.Order{N: n}); err != api.OK || !slices.Equal(l, counted(1<<n)) {
			t.Error(n, l, err)
		}
		var rising []int
		for k := range n + 1 {
			rising = append(rising, 1<<k-1)
		}
		if l, err := order.Prefixes(total(n)); err != api.OK || !slices.Equal(l, rising) {
			t.Error(n, l, err)
		}
	}
}

// checkLines compares what the functions say of lines with all lines there are.
func checkLines(t *testing.T, o api.Order) {
	t.Helper()
	want := lines(o)
	if l, err := order.Line(o); err != api.OK || !slices.Equal(l, want[0]) {
		t.Fatal(o, l, err)
	}
	if n, err := order.Lines(o); err != api.OK || n != len(want) {
		t.Fatal(o, n, err, len(want))
	}
}

func TestP7_1Lines(t *testing.T) {
	for n := range 5 {
		all(n, func(o api.Order) {
			if valid(o) {
				checkLines(t, o)
			}
		})
	}
	r := rand.New(rand.NewSource(75))
	for range 200 {
		checkLines(t, sound(r, 5+r.Intn(2), r.Intn(10)))
	}
	for range 10 {
		checkLines(t, sound(r, 7+r.Intn(2), r.Intn(29)))
	}
}

func TestP7_1ManyLines(t *testing.T) {
	product := 1
	for n := range 9 {
		product *= max(n, 1)
		if many, err := order.Lines(api.Order{N: n}); err != api.OK || many != product {
			t.Error(n, many, err)
		}
		if one, err := order.Lines(total(n)); err != api.OK || one != 1 {
			t.Error(n, one, err)
		}
		if l, err := order.Line(api.Order{N: n}); err != api.OK || !slices.Equal(l, counted(n)) {
			t.Error(n, l, err)
		}
	}
	// two lists of four things, put together in any way
	o := api.Order{N: 8, Pairs: [][2]int{{0, 1}, {1, 2}, {2, 3}, {4, 5}, {5, 6}, {6, 7}}}
	if n, err := order.Lines(o); err != api.OK || n != 70 {
		t.Error(n, err)
	}
	if l, err := order.Line(api.Order{N: 4, Pairs: [][2]int{{3, 0}, {2, 3}}}); err != api.OK || !slices.Equal(l, []int{1, 2, 3, 0}) {
		t.Error(l, err)
	}
}

func TestP7_1IsLine(t *testing.T) {
	for n := range 5 {
		lists := [][]int{nil}
		for range n {
			var longer [][]int
			for _, l := range lists {
				for a := range n {
					longer = append(longer, append(slices.Clone(l), a))
				}
			}
			lists = longer
		}
		all(n, func(o api.Order) {
			is := valid(o)
			for _, l := range lists {
				if order.IsLine(o, l) != (is && isLine(o, l)) {
					t.Fatal(o, l)
				}
			}
		})
	}
	r := rand.New(rand.NewSource(76))
	accepted := 0
	for range 20000 {
		o := someSound(r)
		l := r.Perm(o.N)
		if order.IsLine(o, l) != isLine(o, l) {
			t.Fatal(o, l)
		}
		if isLine(o, l) {
			accepted++
		}
	}
	if accepted < 1000 {
		t.Error(accepted)
	}
}

func TestP7_1NoLines(t *testing.T) {
	for _, l := range [][]int{
		nil, {}, {0}, {0, 1, 2, 3}, {0, 1, 2, 3, 3}, {0, 1, 2, 3, 5}, {0, 1, 2, 3, -1}, {-1, 0, 1, 2, 3},
		{0, 1, 2, 3, 4, 4}, {0, 1, 2, 3, 4, 5}, {0, 1, 1, 2, 3, 4}, {0, 1, 2, 3, math.MaxInt},
		{0, 1, 2, 3, math.MinInt}, {0, 1, 2, 3, 64}, {0, 1, 2, 3, 68}, {0, 0, 0, 0, 0}, make([]int, 1000),
	} {
		if order.IsLine(example(), l) || order.IsLine(api.Order{N: 5}, l) {
			t.Error(l)
		}
	}
	if order.IsLine(api.Order{}, []int{0}) || !order.IsLine(api.Order{}, nil) || !order.IsLine(api.Order{}, []int{}) {
		t.Error("no things")
	}
}

func TestP7_2LinesBeginWithPrefixes(t *testing.T) {
	some(77, 1000, func(r *rand.Rand, o api.Order) {
		if !valid(o) {
			return
		}
		found, _ := order.Prefixes(o)
		line, _ := order.Line(o)
		for _, l := range [][]int{line, r.Perm(o.N), r.Perm(o.N), r.Perm(o.N)} {
			if !order.IsLine(o, l) {
				continue
			}
			p := 0
			for k := range o.N + 1 {
				if !slices.Contains(found, p) {
					t.Fatal(o, l, k)
				}
				if k < o.N {
					p |= 1 << l[k]
				}
			}
		}
	})
}

func TestP7_2PrefixesBeginLines(t *testing.T) {
	some(78, 1000, func(r *rand.Rand, o api.Order) {
		if !valid(o) {
			return
		}
		found, _ := order.Prefixes(o)
		line, _ := order.Line(o)
		for _, p := range found {
			var l, rest []int
			for _, a := range line {
				if p>>a&1 == 1 {
					l = append(l, a)
				} else {
					rest = append(rest, a)
				}
			}
			if !order.IsLine(o, append(l, rest...)) {
				t.Fatal(o, p)
			}
		}
	})
}

func TestP7_2LinesAreWays(t *testing.T) {
	some(79, 500, func(r *rand.Rand, o api.Order) {
		if !valid(o) {
			return
		}
		found, _ := order.Prefixes(o)
		ways := map[int]int{1<<o.N - 1: 1}
		for _, p := range slices.Backward(found) {
			for a := range o.N {
				if p>>a&1 == 0 {
					ways[p] += ways[p|1<<a]
				}
			}
		}
		if n, err := order.Lines(o); err != api.OK || n != ways[0] {
			t.Fatal(o, n, err, ways[0])
		}
	})
}

func TestP7_7NotOrdered(t *testing.T) {
	tried := 0
	some(80, 1000, func(r *rand.Rand, o api.Order) {
		if !valid(o) || len(o.Pairs) == api.MaxPairs {
			return
		}
		n, _ := order.Lines(o)
		for a := range o.N {
			for b := range a {
				if order.Before(o, a, b) || order.Before(o, b, a) {
					continue
				}
				tried++
				there, err := order.Lines(with(o, [2]int{a, b}))
				back, other := order.Lines(with(o, [2]int{b, a}))
				if err != api.OK || other != api.OK || there < 1 || back < 1 || there+back != n {
					t.Fatal(o, a, b, there, back, n)
				}
			}
		}
	})
	if tried < 3000 {
		t.Error(tried)
	}
}

func TestP7_7WhichLines(t *testing.T) {
	all(4, func(o api.Order) {
		if !valid(o) {
			return
		}
		every := lines(o)
		for _, p := range pairs(o, func(a int, b int) bool { return a != b && !comes(o, a, b) && !comes(o, b, a) }) {
			for _, l := range every {
				there := slices.Index(l, p[0]) < slices.Index(l, p[1])
				if order.IsLine(with(o, p), l) != there || !order.IsLine(o, l) {
					t.Fatal(o, p, l)
				}
			}
		}
	})
}

func TestP7_8UnionsAndIntersections(t *testing.T) {
	some(81, 100, func(r *rand.Rand, o api.Order) {
		found, _ := order.Prefixes(o)
		for _, p := range found {
			for _, q := range found {
				_, union := slices.BinarySearch(found, p|q)
				_, intersection := slices.BinarySearch(found, p&q)
				if !union || !intersection {
					t.Fatal(o, p, q)
				}
			}
		}
	})
}

func TestP7_8FurtherPairs(t *testing.T) {
	some(82, 300, func(r *rand.Rand, o api.Order) {
		if !valid(o) || len(o.Pairs) == api.MaxPairs {
			return
		}
		found, _ := order.Prefixes(o)
		for _, p := range pairs(o, func(a int, b int) bool { return a != b && !comes(o, b, a) }) {
			var want []int
			for _, s := range found {
				if s>>p[0]&1 == 1 || s>>p[1]&1 == 0 {
					want = append(want, s)
				}
			}
			if l, err := order.Prefixes(with(o, p)); err != api.OK || !slices.Equal(l, want) {
				t.Fatal(o, p, l, err)
			}
		}
	})
}
