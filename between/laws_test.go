package between_test

import (
	"math/rand"
	"slices"
	"testing"

	"dialtone/api"
	"dialtone/between"
)

// situations calls use with each list of n values from low to high.
func situations(n int, low int, high int, use func(x []int)) {
	var next func(x []int)
	next = func(x []int) {
		if len(x) == n {
			use(x)
			return
		}
		for value := low; value <= high; value++ {
			next(append(slices.Clone(x), value))
		}
	}
	next(nil)
}

// keeps is what the chapter says of a situation that keeps a bound.
func keeps(x []int, c api.Bound) bool {
	return x[c.To]-x[c.From] <= c.Most
}

// keepsAll reports whether x keeps all bounds of b.
func keepsAll(x []int, b api.Between) bool {
	return !slices.ContainsFunc(b.Bounds, func(c api.Bound) bool { return !keeps(x, c) })
}

// tight returns a situation in which each variable is away from u by just its distance, or,
// if u has no chain to it, by very much.
func tight(t *testing.T, b api.Between, u int) []int {
	t.Helper()
	rows, err := between.Close(b)
	x, other := between.Solve(b)
	if err != api.OK || other != api.OK {
		t.Fatal(b, err, other)
	}
	for v, distance := range rows[u] {
		if distance != api.Far {
			x[v] = distance
		} else {
			x[v] += 100 * billion
		}
	}
	return x
}

// someBounds returns bounds of many sizes, many of them with contradictions.
func someBounds(r *rand.Rand) api.Between {
	n := 1 + r.Intn(16)
	most := []int{1, 5, 100, billion}[r.Intn(4)]
	switch r.Intn(3) {
	case 0:
		return random(r, n, r.Intn(2*n+2), -r.Intn(most+1), most)
	case 1:
		return nearly(r, n)
	}
	b, _ := around(r, n, r.Intn(61), r.Intn(most/2+1), r.Intn(most/2+1))
	return b
}

// sound calls check with many bounds that have no contradiction, and what Close returns.
func sound(t *testing.T, seed int64, times int, check func(r *rand.Rand, b api.Between, rows [][]int)) {
	t.Helper()
	r := rand.New(rand.NewSource(seed))
	done := 0
	for tries := 0; done < times; tries++ {
		if tries == 20*times {
			t.Fatal("only", done)
		}
		b := someBounds(r)
		if rows, err := between.Close(b); err == api.OK {
			done++
			check(r, b, rows)
		}
	}
}

func TestP6_2SituationsKeepDistances(t *testing.T) {
	r := rand.New(rand.NewSource(70))
	for range 3000 {
		spread := []int{3, 100, billion / 2}[r.Intn(3)]
		b, x := around(r, 1+r.Intn(16), r.Intn(61), spread, r.Intn(spread/2+1))
		rows, err := between.Close(b)
		if err != api.OK || !between.Allowed(b, x) {
			t.Fatal(b, x, err)
		}
		for u := range x {
			for v := range x {
				if x[v]-x[u] > rows[u][v] {
					t.Fatal(b, x, u, v, rows[u][v])
				}
			}
		}
	}
}

func TestP6_2NoDistanceCouldBeLess(t *testing.T) {
	sound(t, 71, 2000, func(r *rand.Rand, b api.Between, rows [][]int) {
		for u := range rows {
			x := tight(t, b, u)
			if !between.Allowed(b, x) || !keepsAll(x, b) {
				t.Fatal(b, u, x)
			}
			for v, distance := range rows[u] {
				if distance != api.Far && x[v]-x[u] != distance {
					t.Fatal(b, u, v, x)
				}
			}
		}
	})
}

func TestP6_2AllSituations(t *testing.T) {
	r := rand.New(rand.NewSource(72))
	for range 300 {
		b := random(r, 3, r.Intn(5), -1, 2)
		rows, err := between.Close(b)
		if err != api.OK {
			continue
		}
		greatest := [3][3]int{}
		situations(3, -4, 4, func(x []int) {
			if !keepsAll(x, b) {
				return
			}
			for u := range 3 {
				for v := range 3 {
					greatest[u][v] = max(greatest[u][v], 100+x[v]-x[u])
				}
			}
		})
		for u := range 3 {
			for v := range 3 {
				// where nothing bounds a difference, the window of the values does
				if d := greatest[u][v] - 100; d != rows[u][v] && (rows[u][v] != api.Far || d <= 4) {
					t.Fatal(b, u, v, d, rows)
				}
			}
		}
	}
}

func TestP6_3AllowedOrContradiction(t *testing.T) {
	r := rand.New(rand.NewSource(73))
	contradictions := 0
	for range 1500 {
		b := random(r, 3, r.Intn(7), -2, 3)
		some := false
		// an allowed situation can be moved and its gaps narrowed until it is in this window
		situations(3, -6, 0, func(x []int) { some = some || keepsAll(x, b) })
		l, is := between.Cycle(b)
		_, err := between.Close(b)
		x, other := between.Solve(b)
		if is == some || (err == api.OK) != some || other != err || some && !keepsAll(x, b) {
			t.Fatal(b, some, l, is, err, x, other)
		}
		if is {
			contradictions++
		}
	}
	if contradictions < 300 || contradictions > 1200 {
		t.Error(contradictions)
	}
}

// without returns bounds for n variables: the given ones, but for the one at i.
func without(n int, bounds []api.Bound, i int) api.Between {
	return api.Between{N: n, Bounds: slices.Delete(slices.Clone(bounds), i, i+1)}
}

func TestP6_3CyclesAreNecessary(t *testing.T) {
	r := rand.New(rand.NewSource(74))
	lengths := map[int]int{}
	for range 3000 {
		b := someBounds(r)
		l, is := between.Cycle(b)
		if !is {
			continue
		}
		lengths[len(l)]++
		var named []api.Bound
		for _, i := range l {
			named = append(named, b.Bounds[i])
		}
		if _, err := between.Solve(api.Between{N: b.N, Bounds: named}); !between.CheckCycle(b, l) || err != api.ErrBetween {
			t.Fatal(b, l)
		}
		for i := range named {
			rest := without(b.N, named, i)
			x, err := between.Solve(rest)
			if other, is := between.Cycle(rest); err != api.OK || !keepsAll(x, rest) || is {
				t.Fatal(b, l, i, other)
			}
		}
	}
	if lengths[1] < 50 || lengths[2] < 50 || lengths[3] < 50 || len(lengths) < 5 {
		t.Error(lengths)
	}
}

func TestP6_3AcceptedCyclesForbid(t *testing.T) {
	r := rand.New(rand.NewSource(75))
	accepted := 0
	for range 20000 {
		n := 1 + r.Intn(3)
		b := random(r, n, 1+r.Intn(4), -2, 2)
		var l []int
		for range 1 + r.Intn(4) {
			l = append(l, r.Intn(len(b.Bounds)))
		}
		if !between.CheckCycle(b, l) {
			continue
		}
		accepted++
		situations(n, -5, 0, func(x []int) {
			if keepsAll(x, b) || between.Allowed(b, x) {
				t.Fatal(b, l, x)
			}
		})
		if x, err := between.Solve(b); err != api.ErrBetween || len(x) != 0 {
			t.Fatal(b, l, x)
		}
	}
	if accepted < 500 {
		t.Error(accepted)
	}
}

func TestP6_4ImpliedOrNotKept(t *testing.T) {
	implied, not := 0, 0
	sound(t, 76, 2000, func(r *rand.Rand, b api.Between, rows [][]int) {
		for range 10 {
			x := randomBound(r, b.N, -billion, billion)
			if d := rows[x.From][x.To]; d != api.Far && r.Intn(3) > 0 {
				x.Most = max(-billion, min(billion, d+r.Intn(3)-1))
			}
			l, is := between.Implied(b, x)
			if is && between.CheckChain(b, x, l) {
				implied++
			} else if is || len(l) != 0 {
				t.Fatal(b, x, l)
			} else {
				not++
			}
			// this situation has the greatest difference of these two that is allowed
			if s := tight(t, b, x.From); !between.Allowed(b, s) || keeps(s, x) != is {
				t.Fatal(b, x, l, is, s)
			}
		}
	})
	if implied < 1000 || not < 1000 {
		t.Error(implied, not)
	}
}

func TestP6_4AllSituations(t *testing.T) {
	r := rand.New(rand.NewSource(77))
	for range 400 {
		b := random(r, 3, r.Intn(5), -1, 2)
		if _, is := between.Cycle(b); is {
			continue
		}
		x := randomBound(r, 3, -2, 4)
		all := true
		// the differences of these values can be greater than any Most of x
		situations(3, -5, 5, func(s []int) { all = all && (keeps(s, x) || !keepsAll(s, b)) })
		if l, is := between.Implied(b, x); is != all {
			t.Fatal(b, x, l, is)
		}
	}
}

func TestP6_4AcceptedChainsHold(t *testing.T) {
	r := rand.New(rand.NewSource(78))
	accepted, rejected := 0, 0
	for range 40000 {
		b, s := around(r, 1+r.Intn(4), 1+r.Intn(8), 5, 2)
		var l []int
		for range r.Intn(4) {
			l = append(l, r.Intn(len(b.Bounds)))
		}
		x := randomBound(r, b.N, -8, 8)
		if !between.CheckChain(b, x, l) {
			rejected++
			continue
		}
		accepted++
		if !between.Allowed(b, s) || !keeps(s, x) {
			t.Fatal(b, s, x, l)
		}
		if _, is := between.Implied(b, x); !is {
			t.Fatal(b, x, l)
		}
	}
	if accepted < 500 || rejected < 500 {
		t.Error(accepted, rejected)
	}
}

func TestP6_5SolutionsAreAllowed(t *testing.T) {
	sound(t, 79, 2000, func(r *rand.Rand, b api.Between, rows [][]int) {
		x, err := between.Solve(b)
		if err != api.OK || !between.Allowed(b, x) || !keepsAll(x, b) {
			t.Fatal(b, x, err)
		}
		for u := range x {
			if x[u] > 0 {
				t.Fatal(b, x)
			}
			// one more at a single variable is above 0 or breaks a bound
			x[u]++
			if x[u] <= 0 && keepsAll(x, b) {
				t.Fatal(b, x, u)
			}
			x[u]--
		}
	})
}

func TestP6_5NoGreaterValue(t *testing.T) {
	r := rand.New(rand.NewSource(80))
	for range 2000 {
		spread := []int{3, 100, billion / 2}[r.Intn(3)]
		b, s := around(r, 1+r.Intn(16), r.Intn(61), spread, r.Intn(spread/2+1))
		top := slices.Max(s) + r.Intn(2)
		for u := range s {
			s[u] -= top
		}
		x, err := between.Solve(b)
		if err != api.OK || !between.Allowed(b, s) {
			t.Fatal(b, s, err)
		}
		for u := range s {
			if s[u] > x[u] {
				t.Fatal(b, s, x)
			}
		}
	}
	for range 300 {
		b := random(r, 3, r.Intn(6), -2, 3)
		x, err := between.Solve(b)
		if err != api.OK {
			continue
		}
		situations(3, -5, 0, func(s []int) {
			for u := range s {
				if s[u] > x[u] && keepsAll(s, b) {
					t.Fatal(b, s, x)
				}
			}
		})
	}
}

func TestP6_6FurtherBounds(t *testing.T) {
	same, less, contradicting := 0, 0, 0
	sound(t, 81, 3000, func(r *rand.Rand, b api.Between, rows [][]int) {
		if len(b.Bounds) == api.MaxBounds {
			return
		}
		x := randomBound(r, b.N, -20, 20)
		if d := rows[x.From][x.To]; d != api.Far && r.Intn(3) > 0 {
			x.Most = max(-billion, min(billion, d+r.Intn(3)-1))
		}
		_, is := between.Implied(b, x)
		more := api.Between{N: b.N, Bounds: append(slices.Clone(b.Bounds), x)}
		after, err := between.Close(more)
		if err != api.OK {
			contradicting++
			if is {
				t.Fatal(b, x)
			}
			return
		}
		for u := range rows {
			for v := range rows {
				if after[u][v] > rows[u][v] {
					t.Fatal(b, x, u, v, after, rows)
				}
			}
		}
		if sameTables(after, rows) != is {
			t.Fatal(b, x, is, after, rows)
		}
		if is {
			same++
		} else {
			less++
		}
	})
	if same < 300 || less < 300 || contradicting < 100 {
		t.Error(same, less, contradicting)
	}
}

func TestP6_7Moved(t *testing.T) {
	sound(t, 82, 1000, func(r *rand.Rand, b api.Between, rows [][]int) {
		x, _ := between.Solve(b)
		moved := func(by int) []int {
			var l []int
			for _, value := range x {
				l = append(l, value+by)
			}
			return l
		}
		low, high := -api.MaxSituation-slices.Min(x), api.MaxSituation-slices.Max(x)
		for _, by := range []int{low, high, 1, -1, low + r.Intn(high-low)} {
			if !between.Allowed(b, moved(by)) {
				t.Fatal(b, x, by)
			}
		}
		// beyond the limits it is no situation
		if between.Allowed(b, moved(low-1)) || between.Allowed(b, moved(high+1)) {
			t.Fatal(b, x)
		}
	})
}

// mirrored returns b with From and To of all bounds exchanged.
func mirrored(b api.Between) api.Between {
	m := api.Between{N: b.N}
	for _, c := range b.Bounds {
		m.Bounds = append(m.Bounds, api.Bound{From: c.To, To: c.From, Most: c.Most})
	}
	return m
}

func TestP6_7Mirrored(t *testing.T) {
	r := rand.New(rand.NewSource(83))
	for range 2000 {
		b := someBounds(r)
		rows, err := between.Close(b)
		turned, other := between.Close(mirrored(b))
		_, is := between.Cycle(b)
		if l, too := between.Cycle(mirrored(b)); err != other || is != too || is && len(l) == 0 {
			t.Fatal(b, err, other, l)
		}
		for u := range rows {
			for v := range rows {
				if rows[u][v] != turned[v][u] {
					t.Fatal(b, u, v)
				}
			}
		}
	}
}

func TestP6_7OppositeValues(t *testing.T) {
	r := rand.New(rand.NewSource(84))
	allowed, not := 0, 0
	for range 5000 {
		b, x := around(r, 1+r.Intn(6), r.Intn(10), 20, 4)
		x[r.Intn(b.N)] += r.Intn(5) - 2
		var opposite []int
		for _, value := range x {
			opposite = append(opposite, -value)
		}
		is := between.Allowed(b, x)
		if is != keepsAll(x, b) || between.Allowed(mirrored(b), opposite) != is {
			t.Fatal(b, x)
		}
		if is {
			allowed++
		} else {
			not++
		}
	}
	if allowed < 500 || not < 500 {
		t.Error(allowed, not)
	}
}
