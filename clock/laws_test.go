package clock_test

import (
	"math/rand"
	"slices"
	"testing"

	"dialtone/api"
	"dialtone/clock"
)

// course is the local seconds that a clock shows, by true seconds.
type course func(t int) int

// steady returns a course whose rate changes every few seconds, within the drift: it is a
// course, as the clock shows the whole seconds of what its rate gives.
func steady(r *rand.Rand, drift int) course {
	length := 1 + r.Intn(api.MaxTime/8)
	begin := r.Intn(4000000) - 2000000
	rates := make([]int, api.MaxTime/length+1)
	for i := range rates {
		rates[i] = 1000 + r.Intn(2*drift+1) - drift
		if r.Intn(3) == 0 {
			rates[i] = 1000 + drift*(2*r.Intn(2)-1)
		}
	}
	sums := []int{begin}
	for _, rate := range rates {
		sums = append(sums, sums[len(sums)-1]+rate*length)
	}
	return func(t int) int {
		thousandths := sums[t/length] + rates[t/length]*(t%length)
		return (thousandths+10000000000)/1000 - 10000000
	}
}

// jumpy returns the first seconds of a course, each chosen among all that the inequality
// allows after those before, the extreme ones most often; false if there is none.
func jumpy(r *rand.Rand, drift int, seconds int) ([]int, bool) {
	shown := []int{r.Intn(20)}
	for len(shown) < seconds {
		var may []int
		last := shown[len(shown)-1]
		for local := last - 1; local <= last+3; local++ {
			ok := true
			for s, before := range shown {
				ok = ok && advances(drift, len(shown)-s, local-before)
			}
			if ok {
				may = append(may, local)
			}
		}
		if len(may) == 0 {
			return nil, false
		}
		shown = append(shown, []int{may[0], may[len(may)-1], may[r.Intn(len(may))]}[r.Intn(3)])
	}
	return shown, true
}

// clockOf returns a clock with which the course agrees: readings of it at the given true
// seconds, each known within some seconds.
func clockOf(r *rand.Rand, drift int, shows course, seconds []int, within int) api.Clock {
	c := api.Clock{Drift: drift}
	slices.Sort(seconds)
	for _, s := range seconds {
		local := shows(s)
		n := len(c.Readings)
		if local < 0 || local > api.MaxTime || n > 0 && c.Readings[n-1].Local >= local {
			continue
		}
		low, high := max(0, s-r.Intn(within+1)), min(api.MaxTime, s+r.Intn(within+1))
		c.Readings = append(c.Readings, api.Reading{Local: local, Low: low, High: high})
	}
	return c
}

// checkSound checks what the theorem says of a course that agrees with c, at the true
// second s.
func checkSound(t *testing.T, c api.Clock, shows course, s int) {
	t.Helper()
	local := shows(s)
	if local < 0 || local > api.MaxTime {
		return
	}
	first, last, err := clock.At(c, local)
	if err != api.OK || s < first || s > last {
		t.Fatal(c, local, s, "at", first, last, err)
	}
	for _, u := range []int{s - 1, s, s + 1, first - 1, first, last, last + 1} {
		if clock.Before(c, local, u) && s >= u || clock.After(c, local, u) && s <= u {
			t.Fatal(c, local, s, u, "before or after")
		}
	}
	least, greatest, err := clock.Reads(c, s)
	if err != api.OK || local < least || local > greatest {
		t.Fatal(c, local, s, "reads", least, greatest, err)
	}
}

func TestP5_2Steady(t *testing.T) {
	r := rand.New(rand.NewSource(64))
	for i := range 400 {
		drift := []int{0, 1, 3, 50, 99, 100}[i%6]
		shows := steady(r, drift)
		var seconds []int
		for range r.Intn(api.MaxReadings + 1) {
			seconds = append(seconds, r.Intn(api.MaxTime+1))
		}
		c := clockOf(r, drift, shows, seconds, []int{0, 1, 100, 100000}[i%4])
		for _, s := range append(seconds, 0, 1, api.MaxTime-1, api.MaxTime) {
			for _, beside := range []int{-2, -1, 0, 1, 2, r.Intn(1000)} {
				checkSound(t, c, shows, min(max(s+beside, 0), api.MaxTime))
			}
		}
		for range 20 {
			checkSound(t, c, shows, r.Intn(api.MaxTime+1))
		}
	}
}

func TestP5_2Jumpy(t *testing.T) {
	r := rand.New(rand.NewSource(65))
	found := 0
	for i := range 3000 {
		drift := []int{0, 1, 10, 50, 100}[i%5]
		shown, ok := jumpy(r, drift, 60)
		if !ok {
			continue
		}
		found++
		shows := func(s int) int { return shown[s] }
		var seconds []int
		for range 1 + r.Intn(4) {
			seconds = append(seconds, r.Intn(len(shown)))
		}
		c := clockOf(r, drift, shows, seconds, i%3)
		for s := range shown {
			checkSound(t, c, shows, s)
		}
	}
	if found < 100 {
		t.Error(found, "courses")
	}
}

func TestP5_3Exact(t *testing.T) {
	for drift := range api.MaxDrift + 1 {
		for n := range 200 {
			least, greatest := clock.Spread(drift, n)
			for x := range 2*n + 10 {
				if advances(drift, x, n) != (least <= x && x <= greatest) {
					t.Fatal(drift, n, x, least, greatest)
				}
			}
		}
	}
}

func TestP5_3ExactLarge(t *testing.T) {
	r := rand.New(rand.NewSource(66))
	for i := range 20000 {
		n := r.Intn(api.MaxTime + 1)
		if i < 100 {
			n = api.MaxTime - i
		}
		drift := r.Intn(api.MaxDrift + 1)
		least, greatest := clock.Spread(drift, n)
		for x, want := range map[int]bool{least - 1: false, least: true, (least + greatest) / 2: true, greatest: true, greatest + 1: false} {
			if x >= 0 && advances(drift, x, n) != want {
				t.Fatal(drift, n, x, least, greatest)
			}
		}
	}
}

func TestP5_3NoDrift(t *testing.T) {
	for _, n := range []int{0, 1, 2, 7, 999, 1000, 1001, 123456, api.MaxTime - 1, api.MaxTime} {
		if x, y := clock.Spread(0, n); x != n || y != n {
			t.Error(n, x, y)
		}
	}
}

func TestP5_3Ascending(t *testing.T) {
	for drift := range api.MaxDrift + 1 {
		for _, begin := range []int{0, 400000, api.MaxTime - 500} {
			least, greatest := clock.Spread(drift, begin)
			for n := begin; n <= begin+500; n++ {
				x, y := clock.Spread(drift, n)
				if x < least || y < greatest {
					t.Fatal(drift, n, "descends")
				}
				least, greatest = x, y
				if u, v := clock.Spread(drift+1, n); drift < api.MaxDrift && (u > x || v < y) {
					t.Fatal(drift, n, "is narrower with a greater drift")
				}
			}
		}
	}
}

// checkNarrower checks that At does not return more for narrow than for wide.
func checkNarrower(t *testing.T, narrow api.Clock, wide api.Clock, local int) {
	t.Helper()
	x, y, err := clock.At(narrow, local)
	if err == api.ErrClock {
		return
	}
	first, last, err := clock.At(wide, local)
	if err != api.OK || x < first || y > last {
		t.Fatal(narrow, wide, local, x, y, first, last, err)
	}
}

func TestP5_4Narrower(t *testing.T) {
	r := rand.New(rand.NewSource(67))
	for i := range 2000 {
		c := randomClock(r, 1+r.Intn(api.MaxReadings), []int{1, 10, 1000, 100000}[i%4])
		if len(c.Readings) == 0 {
			continue
		}
		k := r.Intn(len(c.Readings))
		fewer, closer := copied(c), copied(c)
		fewer.Readings = slices.Delete(fewer.Readings, k, k+1)
		change := &closer.Readings[k]
		change.Low += r.Intn(change.High - change.Low + 1)
		change.High -= r.Intn(change.High - change.Low + 1)
		for _, local := range locals(r, c) {
			checkNarrower(t, c, fewer, local)
			checkNarrower(t, closer, c, local)
		}
	}
}

// checkBothWays checks that Reads of s has just those of the given local seconds for which
// At has s.
func checkBothWays(t *testing.T, c api.Clock, s int, among ...int) {
	t.Helper()
	least, greatest, none := clock.Reads(c, s)
	for _, local := range among {
		if local < 0 || local > api.MaxTime {
			continue
		}
		first, last, err := clock.At(c, local)
		at := err == api.OK && first <= s && s <= last
		reads := none == api.OK && least <= local && local <= greatest
		if at != reads {
			t.Fatal(c, s, local, "at", first, last, err, "reads", least, greatest, none)
		}
	}
}

func TestP5_5BothWays(t *testing.T) {
	r := rand.New(rand.NewSource(68))
	for i := range 1500 {
		c := randomClock(r, r.Intn(api.MaxReadings+1), []int{1, 10, 1000, 100000}[i%4])
		for _, local := range locals(r, c) {
			s := r.Intn(api.MaxTime + 1)
			if first, last, err := clock.At(c, local); err == api.OK {
				s = []int{first, last, max(0, first-1), min(last+1, api.MaxTime)}[r.Intn(4)]
			}
			least, greatest, _ := clock.Reads(c, s)
			checkBothWays(t, c, s, local, least-1, least, (least+greatest)/2, greatest, greatest+1, r.Intn(api.MaxTime+1))
			checkBothWays(t, c, s, locals(r, c)...)
		}
	}
}

func TestP5_5EverySecond(t *testing.T) {
	c := api.Clock{Drift: 7, Readings: []api.Reading{{Local: 4000, Low: 3000, High: 5000}, {Local: 5000000, Low: 5100000, High: 5100400}}}
	for _, s := range []int{0, 5060000} {
		least, greatest, none := clock.Reads(c, s)
		for local := range api.MaxTime + 1 {
			first, last, err := clock.At(c, local)
			at := err == api.OK && first <= s && s <= last
			if at != (none == api.OK && least <= local && local <= greatest) {
				t.Fatal(s, local, first, last, err, least, greatest, none)
			}
		}
	}
}

func TestP5_7Moved(t *testing.T) {
	r := rand.New(rand.NewSource(69))
	moves := 0
	for i := range 3000 {
		c := randomClock(r, 1+r.Intn(api.MaxReadings), []int{1, 10, 1000, 100000}[i%4])
		by := r.Intn(2000000) - 1000000
		moved := copied(c)
		for k := range moved.Readings {
			moved.Readings[k].Low += by
			moved.Readings[k].High += by
		}
		if len(c.Readings) == 0 || !clock.Valid(moved) {
			continue
		}
		for _, local := range locals(r, c) {
			first, last, err := clock.At(c, local)
			x, y, e := clock.At(moved, local)
			ends := err != api.OK || e != api.OK
			for _, end := range []int{first, last, x, y} {
				ends = ends || end == 0 || end == api.MaxTime
			}
			if ends {
				continue
			}
			moves++
			if x != first+by || y != last+by {
				t.Fatal(c, local, by, first, last, x, y)
			}
		}
	}
	if moves < 1000 {
		t.Error(moves, "moves")
	}
}
