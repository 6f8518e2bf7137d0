package between_test

import (
	"math"
	"math/rand"
	"slices"
	"testing"

	"dialtone/api"
	"dialtone/between"
)

const billion = 1000000000

// three returns the bounds of the chapter's examples; the bound 2 is at most most.
func three(most int) api.Between {
	return api.Between{N: 3, Bounds: []api.Bound{
		{From: 0, To: 1, Most: 5}, {From: 1, To: 2, Most: -2}, {From: 2, To: 0, Most: most},
	}}
}

// sameTables reports whether two tables are equal.
func sameTables(a [][]int, b [][]int) bool {
	return slices.EqualFunc(a, b, slices.Equal[[]int])
}

// checkNothing checks that all functions answer as they do for a b that is not valid.
func checkNothing(t *testing.T, b api.Between) {
	t.Helper()
	if between.Valid(b) {
		t.Error("valid", b)
	}
	if rows, err := between.Close(b); err != api.ErrBetween || len(rows) != 0 {
		t.Error("Close", b, rows, err)
	}
	if x, err := between.Solve(b); err != api.ErrBetween || len(x) != 0 {
		t.Error("Solve", b, x, err)
	}
	if l, ok := between.Cycle(b); ok || len(l) != 0 {
		t.Error("Cycle", b, l)
	}
	for n := range 18 {
		if between.Allowed(b, make([]int, n)) {
			t.Error("Allowed", b, n)
		}
	}
	for _, x := range []api.Bound{{}, {Most: 5}, {From: 0, To: 1, Most: billion}} {
		if l, ok := between.Implied(b, x); ok || len(l) != 0 {
			t.Error("Implied", b, x, l)
		}
		for _, l := range [][]int{nil, {0}, {1}, {0, 1}, {0, 1, 2}} {
			if between.CheckChain(b, x, l) || between.CheckCycle(b, l) {
				t.Error("checks", b, x, l)
			}
		}
	}
}

func TestP6_1Valid(t *testing.T) {
	for i, b := range []api.Between{
		{},
		{Bounds: []api.Bound{}},
		{N: 1},
		{N: 16},
		{N: 1, Bounds: []api.Bound{{Most: billion}, {Most: -billion}}},
		{N: 16, Bounds: []api.Bound{{From: 15, To: 15}, {From: 0, To: 15}, {From: 15, To: 0, Most: -1}}},
		{N: 1, Bounds: make([]api.Bound, 60)},
		three(-4),
	} {
		if !between.Valid(b) {
			t.Error(i)
		}
	}
}

func TestP6_1NotValid(t *testing.T) {
	for _, n := range []int{-1, 17, 18, math.MaxInt, math.MinInt} {
		checkNothing(t, api.Between{N: n})
		checkNothing(t, api.Between{N: n, Bounds: []api.Bound{{Most: -1}}})
	}
	checkNothing(t, api.Between{N: 1, Bounds: make([]api.Bound, 61)})
	checkNothing(t, api.Between{N: 16, Bounds: make([]api.Bound, 1000)})
	checkNothing(t, api.Between{Bounds: []api.Bound{{}}})
	for _, bad := range []api.Bound{
		{From: -1}, {To: -1}, {From: 3}, {To: 3}, {Most: billion + 1}, {Most: -billion - 1},
		{From: math.MinInt}, {To: math.MinInt}, {From: math.MaxInt}, {To: math.MaxInt},
		{Most: math.MaxInt}, {Most: math.MinInt},
	} {
		b := three(0)
		b.Bounds = append(b.Bounds, bad)
		checkNothing(t, b)
		b.Bounds = append([]api.Bound{bad}, three(-4).Bounds...)
		checkNothing(t, b)
		// it is no bound for valid ones either
		for _, b := range []api.Between{three(0), three(-4)} {
			if l, ok := between.Implied(b, bad); ok || len(l) != 0 {
				t.Error("Implied", bad, l)
			}
			for _, l := range [][]int{nil, {0}, {1}, {2}, {0, 1, 2}} {
				if between.CheckChain(b, bad, l) {
					t.Error("CheckChain", bad, l)
				}
			}
		}
	}
}

func TestP6_1Allowed(t *testing.T) {
	const trillion = 1000000000000
	for i, c := range []struct {
		b    api.Between
		x    []int
		want bool
	}{
		{three(0), []int{-2, 0, -2}, true},
		{three(0), []int{0, 5, 3}, true},
		{three(0), []int{0, 5, 4}, false},
		{three(0), []int{0, 6, 4}, false},
		{three(0), []int{0, 5, -1}, false},
		{three(0), []int{0, 5}, false},
		{three(0), []int{0, 5, 3, 0}, false},
		{three(0), nil, false},
		{api.Between{}, nil, true},
		{api.Between{}, []int{}, true},
		{api.Between{}, []int{0}, false},
		{api.Between{N: 1}, []int{trillion}, true},
		{api.Between{N: 1}, []int{-trillion}, true},
		{api.Between{N: 1}, []int{trillion + 1}, false},
		{api.Between{N: 1}, []int{-trillion - 1}, false},
		{api.Between{N: 2}, []int{trillion, -trillion}, true},
		{api.Between{N: 2}, []int{0, math.MinInt}, false},
		{api.Between{N: 2, Bounds: []api.Bound{{From: 0, To: 1}}}, []int{math.MaxInt, math.MinInt}, false},
		{api.Between{N: 2, Bounds: []api.Bound{{From: 0, To: 1, Most: -billion}}}, []int{trillion, -trillion}, true},
		{api.Between{N: 2, Bounds: []api.Bound{{From: 0, To: 1, Most: billion}}}, []int{-trillion, trillion}, false},
		{api.Between{N: 1, Bounds: []api.Bound{{Most: 0}}}, []int{7}, true},
		{api.Between{N: 1, Bounds: []api.Bound{{Most: -1}}}, []int{7}, false},
	} {
		if between.Allowed(c.b, c.x) != c.want {
			t.Error(i)
		}
	}
}

func TestP6_1Examples(t *testing.T) {
	two := three(0)
	two.Bounds = two.Bounds[:2]
	for i, c := range []struct {
		b    api.Between
		rows [][]int
		x    []int
	}{
		{three(0), [][]int{{0, 5, 3}, {-2, 0, -2}, {0, 5, 0}}, []int{-2, 0, -2}},
		{two, [][]int{{0, 5, 3}, {api.Far, 0, -2}, {api.Far, api.Far, 0}}, []int{0, 0, -2}},
		{api.Between{}, nil, nil},
		{api.Between{N: 2}, [][]int{{0, api.Far}, {api.Far, 0}}, []int{0, 0}},
	} {
		rows, err := between.Close(c.b)
		if err != api.OK || !sameTables(rows, c.rows) {
			t.Error(i, rows, err)
		}
		x, err := between.Solve(c.b)
		if err != api.OK || !slices.Equal(x, c.x) {
			t.Error(i, x, err)
		}
		if l, ok := between.Cycle(c.b); ok || len(l) != 0 {
			t.Error(i, l)
		}
	}
	if l, ok := between.Implied(three(0), api.Bound{From: 0, To: 2, Most: 3}); !ok || !slices.Equal(l, []int{0, 1}) {
		t.Error(l, ok)
	}
	if l, ok := between.Implied(three(0), api.Bound{From: 0, To: 2, Most: 2}); ok || len(l) != 0 {
		t.Error(l, ok)
	}
	if l, ok := between.Cycle(three(-4)); !ok || !slices.Equal(l, []int{0, 1, 2}) {
		t.Error(l, ok)
	}
	if rows, err := between.Close(three(-4)); err != api.ErrBetween || len(rows) != 0 {
		t.Error(rows, err)
	}
	if x, err := between.Solve(three(-4)); err != api.ErrBetween || len(x) != 0 {
		t.Error(x, err)
	}
}

// ring returns n variables, each with the bound first to the next one, the last one with
// the bound last to the first one.
func ring(n int, first int, last int) api.Between {
	b := api.Between{N: n}
	for u := range n {
		b.Bounds = append(b.Bounds, api.Bound{From: u, To: (u + 1) % n, Most: first})
	}
	b.Bounds[n-1].Most = last
	return b
}

// counted returns the numbers from 0 up to n, without n.
func counted(n int) []int {
	var l []int
	for i := range n {
		l = append(l, i)
	}
	return l
}

func TestP6_1LongChains(t *testing.T) {
	for n := 2; n <= 16; n++ {
		for _, most := range []int{billion, 7, 0} {
			// the way around has the sum 0 or more: only then it is no contradiction
			b := ring(n, most, max(-billion, -most*(n-1)))
			rows, err := between.Close(b)
			if err != api.OK || rows[0][n-1] != most*(n-1) {
				t.Fatal(n, most, rows, err)
			}
			x := api.Bound{From: 0, To: n - 1, Most: min(billion, most*(n-1))}
			l, ok := between.Implied(b, x)
			if ok != (most*(n-1) <= billion) || ok && !slices.Equal(l, counted(n-1)) {
				t.Error(n, most, l, ok)
			}
		}
		// all the way around, and not before
		b := ring(n, -billion, billion)
		if n == 2 {
			b.Bounds[1].Most--
		}
		l, ok := between.Cycle(b)
		if !ok || !slices.Equal(l, counted(n)) || !between.CheckCycle(b, l) {
			t.Error(n, l, ok)
		}
		if rows, err := between.Close(b); err != api.ErrBetween || len(rows) != 0 {
			t.Error(n, rows, err)
		}
	}
	b := ring(16, -billion, billion)
	b.Bounds = b.Bounds[:15]
	x, err := between.Solve(b)
	if err != api.OK || x[0] != 0 || x[15] != -15*billion {
		t.Error(x, err)
	}
}

func TestP6_1FewestBounds(t *testing.T) {
	b := api.Between{N: 4, Bounds: []api.Bound{
		{From: 2, To: 0, Most: -1},
		{From: 0, To: 1, Most: -3},
		{From: 1, To: 2, Most: -3},
		{From: 2, To: 3, Most: -3},
		{From: 0, To: 3, Most: -1},
		{From: 0, To: 2, Most: 2},
		{From: 0, To: 2, Most: 2},
		{From: 0, To: 0, Most: 0},
	}}
	// the sums of two rings: 2 0 by the bounds 0 5 is 1, and 0 1 2 0 is -7
	if l, ok := between.Cycle(b); !ok || !slices.Equal(l, []int{0, 1, 2}) {
		t.Error(l, ok)
	}
	b.Bounds[0].Most = -3
	// now both are contradictions, the shorter one by two different bounds
	if l, ok := between.Cycle(b); !ok || !slices.Equal(l, []int{0, 5}) {
		t.Error(l, ok)
	}
	b.Bounds[7].Most = -1
	if l, ok := between.Cycle(b); !ok || !slices.Equal(l, []int{7}) {
		t.Error(l, ok)
	}
	b.Bounds = b.Bounds[1:7]
	for _, c := range []struct {
		most int
		want []int
	}{
		{billion, []int{3}}, {-1, []int{3}}, {-2, []int{0, 1, 2}}, {-9, []int{0, 1, 2}}, {-10, nil},
	} {
		x := api.Bound{From: 0, To: 3, Most: c.most}
		if l, ok := between.Implied(b, x); ok != (c.want != nil) || !slices.Equal(l, c.want) {
			t.Error(c.most, l, ok)
		}
	}
	// of two chains of one bound the first one
	if l, ok := between.Implied(b, api.Bound{From: 0, To: 2, Most: 2}); !ok || !slices.Equal(l, []int{4}) {
		t.Error(l, ok)
	}
}

func TestP6_1EmptyChain(t *testing.T) {
	for u := range 3 {
		for most, want := range map[int]bool{0: true, 1: true, billion: true, -1: false, billion + 1: false} {
			x := api.Bound{From: u, To: u, Most: most}
			if l, ok := between.Implied(three(0), x); ok != want || len(l) != 0 {
				t.Error(x, l, ok)
			}
			if between.CheckChain(three(0), x, nil) != want || between.CheckChain(three(-4), x, []int{}) != want {
				t.Error(x)
			}
		}
		if between.CheckChain(three(0), api.Bound{From: u, To: (u + 1) % 3, Most: billion}, nil) {
			t.Error(u)
		}
	}
	if between.CheckCycle(three(-4), nil) || between.CheckCycle(three(-4), []int{}) {
		t.Error("the empty chain is no contradiction")
	}
}

func TestP6_1Contradicted(t *testing.T) {
	// nothing is implied, but chains are checked all the same
	for _, x := range three(-4).Bounds {
		if l, ok := between.Implied(three(-4), x); ok || len(l) != 0 {
			t.Error(x, l)
		}
	}
	for i, x := range three(-4).Bounds {
		if !between.CheckChain(three(-4), x, []int{i}) {
			t.Error(x)
		}
	}
	// a contradiction among other variables counts, too
	b := three(0)
	b.N = 4
	b.Bounds = append(b.Bounds, api.Bound{From: 3, To: 3, Most: -1})
	if l, ok := between.Implied(b, b.Bounds[0]); ok || len(l) != 0 {
		t.Error(l)
	}
	if rows, err := between.Close(b); err != api.ErrBetween || len(rows) != 0 {
		t.Error(rows, err)
	}
}

func TestP6_1ChecksOfLists(t *testing.T) {
	x := api.Bound{From: 0, To: 2, Most: 3}
	for _, l := range [][]int{{-1}, {3}, {1}, {0}, {1, 0}, {0, 2}, {0, 0}, {0, 1, 2}, {0, 1, 3}, {math.MinInt}, {0, math.MaxInt}} {
		if between.CheckChain(three(0), x, l) || between.CheckCycle(three(0), l) {
			t.Error(l)
		}
	}
	if !between.CheckChain(three(0), x, []int{0, 1}) || between.CheckChain(three(0), api.Bound{From: 0, To: 2, Most: 2}, []int{0, 1}) {
		t.Error("0 1")
	}
	for _, l := range [][]int{{0, 1, 2}, {1, 2, 0}, {2, 0, 1}, {0, 1, 2, 0, 1, 2}} {
		if !between.CheckCycle(three(-4), l) || between.CheckCycle(three(-3), l) {
			t.Error(l)
		}
	}
	for _, l := range [][]int{{0, 1}, {0, 2, 1}, {1, 2}, {0, 1, 2, 0}, {0, 1, 2, 3}, {-1, 0, 1}, {2, 0, 1, 1}} {
		if between.CheckCycle(three(-4), l) {
			t.Error(l)
		}
	}
	// a list has at most 60 indices
	if !between.CheckCycle(three(-4), slices.Repeat([]int{0, 1, 2}, 20)) || between.CheckCycle(three(-4), slices.Repeat([]int{0, 1, 2}, 21)) {
		t.Error("sixty")
	}
	self := api.Between{N: 1, Bounds: []api.Bound{{Most: 0}, {Most: -billion}}}
	for n, want := range map[int]bool{59: true, 60: true, 61: false, 1000: false} {
		if between.CheckChain(self, api.Bound{}, make([]int, n)) != want || between.CheckCycle(self, slices.Repeat([]int{1}, n)) != want {
			t.Error(n)
		}
	}
}

func TestP6_1Arguments(t *testing.T) {
	r := rand.New(rand.NewSource(61))
	values := []int{math.MinInt, -billion - 1, -billion, -1, 0, 1, 2, 3, 15, 16, 17, billion, billion + 1, 1000000000000, math.MaxInt}
	any := func() int { return values[r.Intn(len(values))] }
	some := func(n int) []int {
		var l []int
		for range r.Intn(n) {
			l = append(l, any())
		}
		return l
	}
	for range 20000 {
		b := api.Between{N: any()}
		for range r.Intn(5) {
			b.Bounds = append(b.Bounds, api.Bound{From: any(), To: any(), Most: any()})
		}
		x := api.Bound{From: any(), To: any(), Most: any()}
		l, values := some(5), some(4)
		rows, err := between.Close(b)
		solution, other := between.Solve(b)
		if err != other || err != api.OK && len(rows)+len(solution) != 0 {
			t.Fatal(b, rows, err, solution, other)
		}
		cycle, is := between.Cycle(b)
		if is != (between.Valid(b) && err != api.OK) || is != between.CheckCycle(b, cycle) {
			t.Fatal(b, cycle, is)
		}
		chain, ok := between.Implied(b, x)
		if ok && !between.CheckChain(b, x, chain) || !ok && len(chain) != 0 {
			t.Fatal(b, x, chain, ok)
		}
		if !between.Valid(b) && (between.CheckCycle(b, l) || between.CheckChain(b, x, l) || between.Allowed(b, values)) {
			t.Fatal(b, l, values)
		}
	}
}

func TestP6_1Memory(t *testing.T) {
	b := three(0)
	b.Bounds = append(b.Bounds, api.Bound{})[:3]
	bounds := slices.Clone(b.Bounds[:4])
	x := []int{0, 5, 3}
	between.Allowed(b, x)
	rows, _ := between.Close(b)
	solution, _ := between.Solve(b)
	chain, _ := between.Implied(b, api.Bound{From: 0, To: 2, Most: 3})
	l := []int{0, 1, 2}
	between.CheckCycle(b, l)
	between.CheckChain(b, api.Bound{}, l)
	if !slices.Equal(bounds, b.Bounds[:4]) || !slices.Equal(x, []int{0, 5, 3}) || !slices.Equal(l, []int{0, 1, 2}) {
		t.Fatal("an argument is changed", b, x, l)
	}
	// neither a row nor what lies behind it is shared
	for u := range rows {
		full := rows[u][:cap(rows[u])]
		for v := range full {
			full[v] = 99
		}
		for v := u + 1; v < len(rows); v++ {
			if slices.Contains(rows[v], 99) {
				t.Fatal("rows share memory", rows)
			}
		}
	}
	solution[0], chain[0] = 99, 99
	again, _ := between.Close(b)
	solved, _ := between.Solve(b)
	other, _ := between.Implied(b, api.Bound{From: 0, To: 2, Most: 3})
	if !sameTables(again, [][]int{{0, 5, 3}, {-2, 0, -2}, {0, 5, 0}}) || !slices.Equal(solved, []int{-2, 0, -2}) || !slices.Equal(other, []int{0, 1}) {
		t.Fatal("results are kept", again, solved, other)
	}
	if !slices.Equal(bounds, b.Bounds[:4]) {
		t.Fatal("a result shares memory with an argument", b)
	}
	b = three(-4)
	cycle, _ := between.Cycle(b)
	cycle[0] = 99
	if l, _ := between.Cycle(b); !slices.Equal(l, []int{0, 1, 2}) {
		t.Fatal("results are kept", l)
	}
}
