package clock_test

import (
	"math"
	"math/rand"
	"slices"
	"sort"
	"testing"

	"dialtone/api"
	"dialtone/clock"
)

// advances is the inequality of the chapter: whether a clock with the drift d may advance
// by n local seconds in x true ones.
func advances(d int, x int, n int) bool {
	return (1000-d)*x-1000 < 1000*n && 1000*n < (1000+d)*x+1000
}

// spread looks for the ends of what the inequality allows.
func spread(d int, n int) (int, int) {
	least := sort.Search(2*n+2, func(x int) bool { return 1000*n < (1000+d)*x+1000 })
	beyond := sort.Search(2*n+3, func(x int) bool { return (1000-d)*x-1000 >= 1000*n })
	return least, beyond - 1
}

// isValid is what the chapter says of valid clocks.
func isValid(c api.Clock) bool {
	ok := 0 <= c.Drift && c.Drift <= 100 && len(c.Readings) <= 12
	for i, r := range c.Readings {
		ok = ok && 0 <= r.Local && r.Local <= 10000000
		ok = ok && 0 <= r.Low && r.Low <= r.High && r.High <= 10000000
		ok = ok && (i == 0 || c.Readings[i-1].Local < r.Local)
	}
	return ok
}

// at is what the chapter says of At.
func at(c api.Clock, local int) (int, int, api.Errno) {
	if !isValid(c) || local < 0 || local > 10000000 {
		return 0, 0, api.ErrClock
	}
	lower, upper := []int{0}, []int{10000000}
	for _, r := range c.Readings {
		if local > r.Local {
			x, y := spread(c.Drift, local-r.Local)
			lower, upper = append(lower, r.Low+x), append(upper, r.High+y)
		}
		if local < r.Local {
			x, y := spread(c.Drift, r.Local-local)
			lower, upper = append(lower, r.Low-y), append(upper, r.High-x)
		}
		if local == r.Local {
			_, y := spread(c.Drift, 0)
			lower, upper = append(lower, r.Low-y), append(upper, r.High+y)
		}
	}
	if slices.Max(lower) > slices.Min(upper) {
		return 0, 0, api.ErrClock
	}
	return slices.Max(lower), slices.Min(upper), api.OK
}

// example returns the clock of the chapter's example.
func example() api.Clock {
	return api.Clock{Drift: 100, Readings: []api.Reading{{Local: 1000, Low: 2000, High: 2010}}}
}

// copied returns the clock c with readings of its own.
func copied(c api.Clock) api.Clock {
	return api.Clock{Drift: c.Drift, Readings: slices.Clone(c.Readings)}
}

// randomClock returns a valid clock whose readings need not go with each other: they are
// about a line, and lie up to that many seconds beside it.
func randomClock(r *rand.Rand, readings int, beside int) api.Clock {
	c := api.Clock{Drift: r.Intn(api.MaxDrift + 1)}
	if r.Intn(3) == 0 {
		c.Drift = api.MaxDrift * r.Intn(2)
	}
	step := 1 + r.Intn(1+api.MaxTime/(1<<r.Intn(20))/16)
	local, low := r.Intn(step), r.Intn(2*step)
	for range readings {
		n := 1 + r.Intn(step)
		local, low = local+n, low+n+r.Intn(2*beside+1)-beside
		low = min(max(low, 0), api.MaxTime)
		if local > api.MaxTime {
			break
		}
		high := min(low+r.Intn(beside+1), api.MaxTime)
		c.Readings = append(c.Readings, api.Reading{Local: local, Low: low, High: high})
	}
	return c
}

// locals returns local seconds that matter to c: those of its readings and their
// neighbours, the ends, and some others.
func locals(r *rand.Rand, c api.Clock) []int {
	l := []int{0, 1, api.MaxTime - 1, api.MaxTime}
	for _, reading := range c.Readings {
		l = append(l, reading.Local-1, reading.Local, reading.Local+1, reading.Local+r.Intn(2000)-1000)
	}
	for range 5 {
		l = append(l, r.Intn(api.MaxTime+1))
	}
	return slices.DeleteFunc(l, func(local int) bool { return local < 0 || local > api.MaxTime })
}

// invalid returns clocks that are not valid.
func invalid() []api.Clock {
	var l []api.Clock
	change := func(make func(c *api.Clock)) {
		c := example()
		make(&c)
		l = append(l, c)
	}
	for _, n := range []int{-1, math.MinInt, math.MaxInt} {
		change(func(c *api.Clock) { c.Drift = n })
		change(func(c *api.Clock) { c.Readings[0].Local = n })
		change(func(c *api.Clock) { c.Readings[0].Low = n })
		change(func(c *api.Clock) { c.Readings[0].High = n })
	}
	change(func(c *api.Clock) { c.Drift = 101 })
	change(func(c *api.Clock) { c.Readings[0].Local = api.MaxTime + 1 })
	change(func(c *api.Clock) { c.Readings[0].Low = 2011 })
	change(func(c *api.Clock) { c.Readings[0].High = 1999 })
	change(func(c *api.Clock) { c.Readings[0].High = api.MaxTime + 1 })
	change(func(c *api.Clock) { c.Readings[0].Low, c.Readings[0].High = api.MaxTime+1, api.MaxTime+1 })
	change(func(c *api.Clock) { c.Readings = append(c.Readings, c.Readings[0]) })
	change(func(c *api.Clock) { c.Readings = append(c.Readings, api.Reading{Local: 999, Low: 2000, High: 2010}) })
	change(func(c *api.Clock) { c.Readings = append(c.Readings, api.Reading{Local: 1001, Low: 2000, High: 1999}) })
	var many api.Clock
	for i := range api.MaxReadings + 1 {
		many.Readings = append(many.Readings, api.Reading{Local: i, Low: i, High: i})
	}
	return append(l, many)
}

func TestP5_1Valid(t *testing.T) {
	for i, c := range invalid() {
		if clock.Valid(c) {
			t.Error(i, c)
		}
	}
	r := rand.New(rand.NewSource(51))
	for range 2000 {
		c := randomClock(r, r.Intn(api.MaxReadings+1), 1000)
		if !clock.Valid(c) {
			t.Fatal(c)
		}
		if len(c.Readings) > 0 {
			change := &c.Readings[r.Intn(len(c.Readings))]
			change.Local, change.Low = r.Intn(2*api.MaxTime), change.Low+r.Intn(1000)
		}
		if clock.Valid(c) != isValid(c) {
			t.Fatal(c)
		}
	}
}

func TestP5_1ValidEdges(t *testing.T) {
	edges := []api.Reading{{Local: 0, Low: 0, High: 0}, {Local: api.MaxTime, Low: 0, High: api.MaxTime}}
	most := api.Clock{Drift: api.MaxDrift}
	for i := range api.MaxReadings {
		most.Readings = append(most.Readings, api.Reading{Local: i, Low: api.MaxTime, High: api.MaxTime})
	}
	for i, c := range []api.Clock{{}, {Drift: 100}, {Readings: []api.Reading{}}, {Readings: edges}, most} {
		if !clock.Valid(c) {
			t.Error(i)
		}
	}
}

func TestP5_1SpreadRefused(t *testing.T) {
	for _, n := range []int{-1, 0, 7, api.MaxTime, api.MaxTime + 1, math.MinInt, math.MaxInt} {
		for _, drift := range []int{-1, 0, 3, 100, 101, math.MinInt, math.MaxInt} {
			if 0 <= drift && drift <= 100 && 0 <= n && n <= api.MaxTime {
				continue
			}
			if x, y := clock.Spread(drift, n); x != 0 || y != 0 {
				t.Error(drift, n, x, y)
			}
		}
	}
}

func TestP5_1Examples(t *testing.T) {
	for i, c := range [][4]int{{0, 7, 7, 7}, {100, 0, 0, 1}, {100, 110, 100, 123}, {1, 0, 0, 1}, {0, 0, 0, 0}} {
		if x, y := clock.Spread(c[0], c[1]); x != c[2] || y != c[3] {
			t.Error(i, x, y)
		}
	}
	for i, c := range [][3]int{{1110, 2100, 2133}, {890, 1877, 1910}, {1000, 1999, 2011}} {
		if first, last, err := clock.At(example(), c[0]); first != c[1] || last != c[2] || err != api.OK {
			t.Error(i, first, last, err)
		}
	}
	if first, last, err := clock.Reads(example(), 2005); first != 994 || last != 1006 || err != api.OK {
		t.Error(first, last, err)
	}
}

// checkAt compares At, Before and After with what the chapter says.
func checkAt(t *testing.T, c api.Clock, local int) {
	t.Helper()
	first, last, err := at(c, local)
	if x, y, e := clock.At(c, local); x != first || y != last || e != err {
		t.Fatal(c, local, x, y, e, "is not", first, last, err)
	}
	for _, s := range []int{math.MinInt, -1, 0, first - 1, first, first + 1, last - 1, last, last + 1, math.MaxInt} {
		if got := clock.Before(c, local, s); got != (err == api.OK && last < s) {
			t.Fatal(c, local, s, "before", got)
		}
		if got := clock.After(c, local, s); got != (err == api.OK && first > s) {
			t.Fatal(c, local, s, "after", got)
		}
	}
}

func TestP5_1At(t *testing.T) {
	r := rand.New(rand.NewSource(52))
	for i := range 3000 {
		c := randomClock(r, r.Intn(api.MaxReadings+1), []int{0, 1, 10, 1000, 100000}[i%5])
		before := copied(c)
		for _, local := range locals(r, c) {
			checkAt(t, c, local)
		}
		if !slices.Equal(before.Readings, c.Readings) {
			t.Fatal("the argument is changed")
		}
	}
}

func TestP5_1AtEdges(t *testing.T) {
	for _, c := range append(invalid(), api.Clock{}, api.Clock{Drift: 100}, example()) {
		for _, local := range []int{math.MinInt, -1, 0, 999, 1000, 1001, api.MaxTime, api.MaxTime + 1, math.MaxInt} {
			checkAt(t, c, local)
		}
	}
	// 13 is 3 seconds after the one reading, and 7 before the other: from 1003 to High - 7
	for high, want := range map[int]api.Errno{1010: api.OK, 1009: api.ErrClock} {
		readings := []api.Reading{{Local: 10, Low: 1000, High: 2000}, {Local: 20, Low: 1000, High: high}}
		if _, _, err := clock.At(api.Clock{Readings: readings}, 13); err != want {
			t.Error(high, err)
		}
	}
	// a clock that can only show the second before 0, or after MaxTime
	early := api.Clock{Readings: []api.Reading{{Local: 1000, Low: 10, High: 20}}}
	checkAt(t, early, 979)
	checkAt(t, early, 980)
	late := api.Clock{Readings: []api.Reading{{Local: 1000, Low: api.MaxTime - 20, High: api.MaxTime - 10}}}
	checkAt(t, late, 1020)
	checkAt(t, late, 1021)
	for _, c := range []struct {
		clock api.Clock
		local int
		want  api.Errno
	}{{early, 979, api.ErrClock}, {early, 980, api.OK}, {late, 1020, api.OK}, {late, 1021, api.ErrClock}} {
		if _, _, err := clock.At(c.clock, c.local); err != c.want {
			t.Error(c, err)
		}
	}
}

// checkReads compares Reads with the local seconds that at finds, if all of those with t
// are among the given ones.
func checkReads(t *testing.T, c api.Clock, s int, among []int) {
	t.Helper()
	least, greatest, want := 0, 0, api.ErrClock
	for _, local := range among {
		first, last, err := at(c, local)
		if err != api.OK || s < first || s > last {
			continue
		}
		if want != api.OK {
			least = local
		}
		greatest, want = local, api.OK
	}
	if x, y, err := clock.Reads(c, s); x != least || y != greatest || err != want {
		t.Fatal(c, s, x, y, err, "is not", least, greatest, want)
	}
}

func TestP5_1Reads(t *testing.T) {
	r := rand.New(rand.NewSource(53))
	for range 150 {
		c := randomClock(r, 0, 0)
		local, low := r.Intn(800), r.Intn(800)
		for range 1 + r.Intn(4) {
			local, low = local+1+r.Intn(20), max(0, low+1+r.Intn(20)+r.Intn(9)-4)
			c.Readings = append(c.Readings, api.Reading{Local: local, Low: low, High: low + r.Intn(30)})
		}
		// no local second above can be shown so early
		var among []int
		for n := range 3000 {
			among = append(among, n)
		}
		for range 5 {
			checkReads(t, c, min(1500, max(0, low+r.Intn(200)-100)), among)
		}
		checkReads(t, c, 0, among)
	}
}

func TestP5_1ReadsRefused(t *testing.T) {
	for _, c := range invalid() {
		for _, s := range []int{0, 5, 2000, api.MaxTime} {
			if x, y, err := clock.Reads(c, s); x != 0 || y != 0 || err != api.ErrClock {
				t.Error(c, s, x, y, err)
			}
		}
	}
	for _, c := range []api.Clock{{}, example()} {
		for _, s := range []int{math.MinInt, -1, api.MaxTime + 1, math.MaxInt} {
			if x, y, err := clock.Reads(c, s); x != 0 || y != 0 || err != api.ErrClock {
				t.Error(c, s, x, y, err)
			}
		}
	}
	// at the second 0 the first clock would show less than 0, at MaxTime the other one more than MaxTime
	slow := api.Clock{Readings: []api.Reading{{Local: 1000, Low: 2000, High: 2010}}}
	fast := api.Clock{Readings: []api.Reading{{Local: 2000, Low: 1000, High: 1010}}}
	// no local second between these two fits, as the clock can not have made that step
	jump := api.Clock{Readings: []api.Reading{{Local: 1000, Low: 2000, High: 2000}, {Local: 1010, Low: 2500, High: 2500}}}
	for i, c := range []struct {
		clock api.Clock
		at    int
	}{{slow, 0}, {slow, 999}, {fast, api.MaxTime}, {fast, api.MaxTime - 989}, {jump, 2250}, {jump, 2000}} {
		if x, y, err := clock.Reads(c.clock, c.at); x != 0 || y != 0 || err != api.ErrClock {
			t.Error(i, x, y, err)
		}
	}
}

func TestP5_1ReadsEdges(t *testing.T) {
	slow := api.Clock{Readings: []api.Reading{{Local: 1000, Low: 2000, High: 2010}}}
	fast := api.Clock{Readings: []api.Reading{{Local: 2000, Low: 1000, High: 1010}}}
	for i, c := range []struct {
		clock       api.Clock
		at          int
		first, last int
	}{
		{api.Clock{}, 0, 0, api.MaxTime},
		{api.Clock{Drift: 100}, api.MaxTime, 0, api.MaxTime},
		{slow, 1000, 0, 0},
		{slow, 1005, 0, 5},
		{fast, api.MaxTime - 990, api.MaxTime, api.MaxTime},
		{fast, api.MaxTime - 1000, api.MaxTime - 10, api.MaxTime},
	} {
		if x, y, err := clock.Reads(c.clock, c.at); x != c.first || y != c.last || err != api.OK {
			t.Error(i, x, y, err)
		}
	}
}
