package clock_test

import (
	"math"
	"math/rand"
	"slices"
	"testing"

	"dialtone/api"
	"dialtone/clock"
)

// spellsOf counts the spells of l that a second is in.
func spellsOf(l []api.Spell, s int) int {
	n := 0
	for _, p := range l {
		if p.From <= s && s < p.To {
			n++
		}
	}
	return n
}

// agree looks at each second from low up to high, of which none before and none after are
// in a spell.
func agree(l []api.Spell, low int, high int) (api.Spell, int) {
	k := 0
	for s := low; s < high; s++ {
		k = max(k, spellsOf(l, s))
	}
	if k == 0 {
		return api.Spell{}, 0
	}
	from := low
	for spellsOf(l, from) < k {
		from++
	}
	to := from
	for spellsOf(l, to) == k {
		to++
	}
	return api.Spell{From: from, To: to}, k
}

// checkAgree compares Agree with agree, and checks that l is as before.
func checkAgree(t *testing.T, l []api.Spell, low int, high int) {
	t.Helper()
	before := slices.Clone(l)
	want, k := agree(l, low, high)
	if s, n := clock.Agree(l); s != want || n != k {
		t.Fatal(l, s, n, "is not", want, k)
	}
	if !slices.Equal(before, l) {
		t.Fatal("the argument is changed", before, l)
	}
}

// smallSpells returns all spells with ends from 0 to 4, and some that have no seconds.
func smallSpells() []api.Spell {
	var l []api.Spell
	for from := range 5 {
		for to := range 5 {
			l = append(l, api.Spell{From: from, To: to})
		}
	}
	return l
}

func TestP5_1AgreeSmall(t *testing.T) {
	all := smallSpells()
	checkAgree(t, nil, 0, 5)
	for _, a := range all {
		checkAgree(t, []api.Spell{a}, 0, 5)
		for _, b := range all {
			checkAgree(t, []api.Spell{a, b}, 0, 5)
			for _, c := range all {
				checkAgree(t, []api.Spell{a, b, c}, 0, 5)
			}
		}
	}
}

func TestP5_1AgreeRandom(t *testing.T) {
	r := rand.New(rand.NewSource(61))
	for range 3000 {
		var l []api.Spell
		for range r.Intn(30) {
			from := r.Intn(60) - 30
			l = append(l, api.Spell{From: from, To: from + r.Intn(20) - 2})
		}
		checkAgree(t, l, -40, 60)
	}
}

func TestP5_1AgreeEdges(t *testing.T) {
	for i, c := range []struct {
		l    []api.Spell
		want api.Spell
		k    int
	}{
		{nil, api.Spell{}, 0},
		{[]api.Spell{}, api.Spell{}, 0},
		{[]api.Spell{{From: 3, To: 3}, {From: math.MaxInt, To: math.MinInt}, {From: 5, To: 4}}, api.Spell{}, 0},
		{[]api.Spell{{From: 0, To: 10}, {From: 5, To: 15}, {From: 8, To: 9}, {From: 12, To: 20}}, api.Spell{From: 8, To: 9}, 3},
		{[]api.Spell{{From: math.MinInt, To: math.MaxInt}}, api.Spell{From: math.MinInt, To: math.MaxInt}, 1},
		{[]api.Spell{{From: math.MinInt, To: -1}, {From: 2, To: math.MaxInt}, {From: -5, To: 7}}, api.Spell{From: -5, To: -1}, 2},
		{[]api.Spell{{From: math.MaxInt - 1, To: math.MaxInt}, {From: 0, To: math.MaxInt}}, api.Spell{From: math.MaxInt - 1, To: math.MaxInt}, 2},
		// one spell ends where another one begins: the seconds go on being in as many
		{[]api.Spell{{From: 10, To: 20}, {From: 0, To: 10}}, api.Spell{From: 0, To: 20}, 1},
		{[]api.Spell{{From: 0, To: 30}, {From: 0, To: 10}, {From: 10, To: 20}, {From: 20, To: 25}}, api.Spell{From: 0, To: 25}, 2},
		// of two such spells of seconds the first one
		{[]api.Spell{{From: 8, To: 9}, {From: 8, To: 9}, {From: 0, To: 4}, {From: 2, To: 6}}, api.Spell{From: 2, To: 4}, 2},
		// the same spell counts as often as it is there
		{[]api.Spell{{From: 1, To: 2}, {From: 7, To: 9}, {From: 7, To: 9}, {From: 7, To: 9}}, api.Spell{From: 7, To: 9}, 3},
	} {
		if s, k := clock.Agree(c.l); s != c.want || k != c.k {
			t.Error(i, s, k)
		}
	}
}

func TestP5_6NoMoreAnywhere(t *testing.T) {
	r := rand.New(rand.NewSource(62))
	for range 2000 {
		var l []api.Spell
		for range 1 + r.Intn(40) {
			from := r.Intn(200)
			l = append(l, api.Spell{From: from, To: from + r.Intn(50)})
		}
		best, k := clock.Agree(l)
		for s := -1; s <= 251; s++ {
			n := spellsOf(l, s)
			if n > k || best.From <= s && s < best.To && n != k {
				t.Fatal(l, best, k, s, n)
			}
		}
	}
}

func TestP5_6ManySpells(t *testing.T) {
	r := rand.New(rand.NewSource(63))
	var l []api.Spell
	for range 100000 {
		from := r.Intn(api.MaxTime)
		l = append(l, api.Spell{From: from, To: from + r.Intn(1000)})
	}
	best, k := clock.Agree(l)
	if best.From >= best.To || spellsOf(l, best.From) != k || spellsOf(l, best.To-1) != k {
		t.Error(best, k)
	}
	// the number of spells is greatest at a second at which one of them begins
	for _, p := range l[:500] {
		if spellsOf(l, p.From) > k {
			t.Fatal(p, k)
		}
	}
}
