package between_test

import (
	"math/rand"
	"slices"
	"testing"

	"dialtone/api"
	"dialtone/between"
)

// exact has for each number of bounds up to 60 the least sums of the chains of just so many.
type exact [61][][]int

func exactSums(b api.Between) exact {
	var sums exact
	for k := range sums {
		for u := range b.N {
			row := slices.Repeat([]int{api.Far}, b.N)
			if k == 0 {
				row[u] = 0
			}
			for _, c := range b.Bounds {
				if k > 0 && sums[k-1][u][c.From] < api.Far {
					row[c.To] = min(row[c.To], sums[k-1][u][c.From]+c.Most)
				}
			}
			sums[k] = append(sums[k], row)
		}
	}
	return sums
}

// distances is what the chapter says of distances: the least sums of all chains, and
// whether there is no contradiction.
func distances(b api.Between) ([][]int, bool) {
	sums := exactSums(b)
	var least [][]int
	for u := range b.N {
		row := slices.Clone(sums[0][u])
		for k := range sums {
			for v := range b.N {
				row[v] = min(row[v], sums[k][u][v])
			}
		}
		if row[u] < 0 {
			return nil, false
		}
		least = append(least, row)
	}
	return least, true
}

// plainly goes through all lists of k indices in their order, and returns the first one
// that is a chain that begins with l and shows x.
func plainly(b api.Between, x api.Bound, k int, l []int) ([]int, bool) {
	end, sum := x.From, 0
	for _, i := range l {
		if b.Bounds[i].From != end {
			return nil, false
		}
		end, sum = b.Bounds[i].To, sum+b.Bounds[i].Most
	}
	if len(l) == k {
		return l, end == x.To && sum <= x.Most
	}
	for i := range b.Bounds {
		if found, ok := plainly(b, x, k, append(slices.Clone(l), i)); ok {
			return found, true
		}
	}
	return nil, false
}

// pruned does the same by going only where the least sums say that there is a rest.
func pruned(b api.Between, sums exact, x api.Bound, k int, l []int) ([]int, bool) {
	if sums[k-len(l)][x.From][x.To] > x.Most {
		return nil, false
	}
	if len(l) == k {
		return l, true
	}
	for i, c := range b.Bounds {
		if c.From == x.From {
			rest := api.Bound{From: c.To, To: x.To, Most: x.Most - c.Most}
			if found, ok := pruned(b, sums, rest, k, append(slices.Clone(l), i)); ok {
				return found, true
			}
		}
	}
	return nil, false
}

// search returns the first chain of the fewest bounds, up to most of them.
type search func(x api.Bound, k int) ([]int, bool)

func plainSearch(b api.Between) search {
	return func(x api.Bound, k int) ([]int, bool) { return plainly(b, x, k, nil) }
}

func prunedSearch(b api.Between) search {
	sums := exactSums(b)
	return func(x api.Bound, k int) ([]int, bool) { return pruned(b, sums, x, k, nil) }
}

// implied is what the chapter says of Implied, for chains of at most most bounds.
func implied(b api.Between, x api.Bound, find search, most int) ([]int, bool) {
	if _, ok := distances(b); !ok {
		return nil, false
	}
	for k := range most + 1 {
		if l, ok := find(x, k); ok {
			return l, true
		}
	}
	return nil, false
}

// cycle is what the chapter says of Cycle, for chains of at most most bounds.
func cycle(b api.Between, find search, most int) ([]int, bool) {
	for k := range most + 1 {
		var best []int
		for u := range b.N {
			l, ok := find(api.Bound{From: u, To: u, Most: -1}, k)
			if ok && (best == nil || slices.Compare(l, best) < 0) {
				best = l
			}
		}
		if best != nil {
			return best, true
		}
	}
	return nil, false
}

// random returns bounds for n variables, with Mosts from low to high.
func random(r *rand.Rand, n int, bounds int, low int, high int) api.Between {
	b := api.Between{N: n}
	for range bounds {
		b.Bounds = append(b.Bounds, randomBound(r, n, low, high))
	}
	return b
}

func randomBound(r *rand.Rand, n int, low int, high int) api.Bound {
	return api.Bound{From: r.Intn(n), To: r.Intn(n), Most: low + r.Intn(high-low+1)}
}

// around returns bounds for n variables that a situation keeps, and it: each bound leaves
// at most slack.
func around(r *rand.Rand, n int, bounds int, spread int, slack int) (api.Between, []int) {
	var x []int
	for range n {
		x = append(x, r.Intn(2*spread+1)-spread)
	}
	b := api.Between{N: n}
	for range bounds {
		c := api.Bound{From: r.Intn(n), To: r.Intn(n)}
		c.Most = min(billion, x[c.To]-x[c.From]+r.Intn(slack+1))
		b.Bounds = append(b.Bounds, c)
	}
	return b, x
}

// nearly returns bounds for n variables of which a situation keeps most, and breaks some by
// 1: many of them have contradictions, also long ones.
func nearly(r *rand.Rand, n int) api.Between {
	b, _ := around(r, n, r.Intn(61), 1+r.Intn(50), r.Intn(5))
	for i := range b.Bounds {
		b.Bounds[i].Most -= r.Intn(20) / 18
	}
	return b
}

// checkAll compares what the functions return with what the chapter says.
func checkAll(t *testing.T, b api.Between, find search, most int, asked ...api.Bound) {
	t.Helper()
	want, ok := distances(b)
	rows, err := between.Close(b)
	x, other := between.Solve(b)
	if (err == api.OK) != ok || err != other || !sameTables(rows, want) || len(x) != len(want) {
		t.Fatal(b, rows, err, x, other, "not", want)
	}
	for u := range x {
		value := 0
		for v := range x {
			value = min(value, want[v][u])
		}
		if x[u] != value {
			t.Fatal(b, x, "not", value, "at", u)
		}
	}
	l, is := between.Cycle(b)
	first, found := cycle(b, find, most)
	if is != found || is == ok || !slices.Equal(l, first) || between.CheckCycle(b, l) != is {
		t.Fatal(b, l, is, "not", first, found)
	}
	for _, x := range asked {
		l, is := between.Implied(b, x)
		first, found := implied(b, x, find, most)
		if is != found || !slices.Equal(l, first) {
			t.Fatal(b, x, l, is, "not", first, found)
		}
		if is && !between.CheckChain(b, x, l) {
			t.Fatal(b, x, l)
		}
	}
}

func TestP6_1AllOfTwoVariables(t *testing.T) {
	var all []api.Bound
	for i := range 12 {
		all = append(all, api.Bound{From: i / 3 % 2, To: i / 6, Most: i%3 - 1})
	}
	for i := range 12 * 12 * 12 {
		b := api.Between{N: 2, Bounds: []api.Bound{all[i%12], all[i/12%12], all[i/144]}}
		checkAll(t, b, plainSearch(b), 4, all...)
	}
}

func TestP6_1SmallOnes(t *testing.T) {
	r := rand.New(rand.NewSource(62))
	for range 4000 {
		n := 1 + r.Intn(4)
		low := -r.Intn(4)
		b := random(r, n, r.Intn(7), low, low+1+r.Intn(6))
		var asked []api.Bound
		for range 6 {
			asked = append(asked, randomBound(r, n, -4, 8))
		}
		checkAll(t, b, plainSearch(b), 5, asked...)
	}
}

func TestP6_1GreatOnes(t *testing.T) {
	r := rand.New(rand.NewSource(63))
	for range 300 {
		n := 1 + r.Intn(16)
		b := nearly(r, n)
		switch r.Intn(3) {
		case 0:
			b = random(r, n, r.Intn(61), -r.Intn(billion), billion)
		case 1:
			b, _ = around(r, n, r.Intn(61), 1+r.Intn(50), r.Intn(5))
		}
		asked := slices.Clone(b.Bounds)
		for range 20 {
			asked = append(asked, randomBound(r, n, -60, 120))
		}
		checkAll(t, b, prunedSearch(b), 17, asked...)
	}
}

func TestP6_1RandomLists(t *testing.T) {
	r := rand.New(rand.NewSource(64))
	accepted, rejected := 0, 0
	for range 20000 {
		n := 1 + r.Intn(3)
		b := random(r, n, 1+r.Intn(5), -3, 3)
		x := randomBound(r, n, -4, 4)
		var l []int
		for range r.Intn(5) {
			l = append(l, r.Intn(len(b.Bounds)+2)-1)
		}
		chain, sum := true, 0
		ends := []int{x.From}
		for _, i := range l {
			chain = chain && 0 <= i && i < len(b.Bounds)
			if chain {
				chain = b.Bounds[i].From == ends[len(ends)-1] || len(ends) == 1
				ends = append(ends, b.Bounds[i].To)
				sum += b.Bounds[i].Most
			}
		}
		is := chain && len(l) > 0 && b.Bounds[l[0]].From == ends[len(ends)-1] && sum < 0
		shown := chain && (len(l) == 0 || b.Bounds[l[0]].From == x.From) && ends[len(ends)-1] == x.To && sum <= x.Most
		if between.CheckCycle(b, l) != is || between.CheckChain(b, x, l) != shown {
			t.Fatal(b, x, l, is, shown)
		}
		if is || shown {
			accepted++
		} else {
			rejected++
		}
	}
	if accepted < 500 || rejected < 500 {
		t.Error(accepted, rejected)
	}
}
