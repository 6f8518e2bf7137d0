package statute_test

import (
	"math/rand"
	"slices"
	"testing"

	"dialtone/api"
	"dialtone/statute"
)

// answer returns the answer to q.
func answer(t *testing.T, c api.Rulebook, q api.Question) bool {
	t.Helper()
	holds, _, err := statute.Decide(c, q)
	if err != api.OK {
		t.Fatal(c, q, err)
	}
	return holds
}

// checkSame checks that the answer to q is the same by c and by d, and that the same lists
// are accepted of those that are made from proofs.
func checkSame(t *testing.T, r *rand.Rand, c api.Rulebook, d api.Rulebook, q api.Question) {
	t.Helper()
	if answer(t, c, q) != answer(t, d, q) {
		t.Fatal(c, d, q)
	}
	_, short, _ := statute.Decide(c, q)
	_, other, _ := statute.Decide(d, q)
	for _, l := range [][]api.Finding{short, other, full(c, q), full(d, q), changed(r, short), changed(r, full(c, q))} {
		for _, holds := range []bool{false, true} {
			if statute.Check(c, q, holds, l) != statute.Check(d, q, holds, l) {
				t.Fatal(c, d, q, holds, l)
			}
		}
	}
}

// otherwise returns a spell that does not have the second t, and is not far from it.
func otherwise(r *rand.Rand, t int) api.Spell {
	from := r.Intn(t + 1)
	if from == t || r.Intn(2) == 0 {
		from = t + 1 + r.Intn(3)
		return spell(from, from+1+r.Intn(5))
	}
	return spell(from, from+1+r.Intn(t-from))
}

// later returns rules with further clauses, repeals and facts that do not matter for q.
func later(r *rand.Rand, c api.Rulebook, q api.Question) api.Rulebook {
	d := copied(c)
	for range min(r.Intn(4), 20-len(d.Clauses)) {
		x := someClause(r, r.Intn(q.Says+1))
		if r.Intn(2) == 0 {
			x.Published = q.Known + 1 + r.Intn(3)
		} else {
			x.Spell = otherwise(r, q.At)
		}
		d.Clauses = append(d.Clauses, x)
	}
	for range min(r.Intn(4), 10-len(d.Repeals), 10*len(d.Clauses)) {
		x := api.Repeal{Clause: r.Intn(len(d.Clauses)), Published: q.Known + 1 + r.Intn(3), From: r.Intn(q.At + 2)}
		if x.Clause >= len(c.Clauses) && r.Intn(2) == 0 {
			x.Published = r.Intn(q.Known + 1)
		}
		d.Repeals = append(d.Repeals, x)
	}
	for range min(r.Intn(4), 20-len(d.Facts)) {
		x := api.Fact{Thing: q.Thing, Says: r.Intn(q.Says + 1), Spell: always(), Known: always()}
		switch r.Intn(3) {
		case 0:
			x.Thing = q.Thing + 1
		case 1:
			x.Spell = otherwise(r, q.At)
		case 2:
			x.Known = otherwise(r, q.Known)
		}
		d.Facts = append(d.Facts, x)
	}
	return d
}

func TestP8_3AsItWasKnown(t *testing.T) {
	more := 0
	some(114, 4000, false, func(r *rand.Rand, c api.Rulebook, q api.Question) {
		d := later(r, c, q)
		checkSame(t, r, c, d, q)
		facts, clauses, _ := statute.Applies(c, q)
		facts2, clauses2, err := statute.Applies(d, q)
		if err != api.OK || !slices.Equal(facts, facts2) || !slices.Equal(clauses, clauses2) {
			t.Fatal(c, d, q)
		}
		more += len(d.Clauses) - len(c.Clauses) + len(d.Repeals) - len(c.Repeals)
	})
	if more < 4000 {
		t.Error(more)
	}
}

func TestP8_3AllLists(t *testing.T) {
	r := rand.New(rand.NewSource(115))
	for range 60 {
		c := book(r, 3, r.Intn(3), r.Intn(2), r.Intn(2))
		q := someQuestion(r, 3)
		d := later(r, c, q)
		lists(3, plausible(d), func(l []api.Finding) {
			for _, holds := range []bool{false, true} {
				if statute.Check(c, q, holds, l) != statute.Check(d, q, holds, l) {
					t.Fatal(c, d, q, holds, l)
				}
			}
		})
	}
}

func TestP8_3PastIsJudgedAgain(t *testing.T) {
	// what is believed today of the time 700 changes nothing of what was known of it at 599
	for at := range 1001 {
		for _, known := range []int{0, 99, 100, 149, 150, 299, 300, 599} {
			c := example()
			c.Facts = c.Facts[:1]
			checkSame(t, rand.New(rand.NewSource(116)), c, example(), ask(at, known))
		}
	}
	c := example()
	c.Facts = c.Facts[:1]
	if !answer(t, c, ask(700, 600)) || answer(t, example(), ask(700, 600)) || !answer(t, example(), ask(700, 599)) {
		t.Error("the fact is believed from 600 on")
	}
}

// only returns rules with those facts and clauses alone, and those repeals of c that are
// about them.
func only(c api.Rulebook, facts []int, clauses []int) api.Rulebook {
	var d api.Rulebook
	for _, i := range facts {
		d.Facts = append(d.Facts, c.Facts[i])
	}
	for _, i := range clauses {
		d.Clauses = append(d.Clauses, c.Clauses[i])
	}
	for _, x := range c.Repeals {
		if i := slices.Index(clauses, x.Clause); i >= 0 {
			x.Clause = i
			d.Repeals = append(d.Repeals, x)
		}
	}
	return d
}

func TestP8_4WhatItLeansOn(t *testing.T) {
	less := 0
	some(117, 4000, false, func(r *rand.Rand, c api.Rulebook, q api.Question) {
		holds, short, _ := statute.Decide(c, q)
		for _, l := range [][]api.Finding{short, full(c, q)} {
			facts, clauses, err := statute.Uses(c, q, l)
			if err != api.OK {
				t.Fatal(c, q, l, err)
			}
			d := only(c, facts, clauses)
			if answer(t, d, q) != holds {
				t.Fatal(c, d, q, l)
			}
			less += len(c.Facts) - len(d.Facts) + len(c.Clauses) - len(d.Clauses)
		}
	})
	if less < 10000 {
		t.Error(less)
	}
}

func TestP8_4AllProofs(t *testing.T) {
	some(118, 100, true, func(r *rand.Rand, c api.Rulebook, q api.Question) {
		holds := answer(t, c, q)
		lists(4, plausible(c), func(l []api.Finding) {
			facts, clauses, err := statute.Uses(c, q, l)
			if err == api.OK && answer(t, only(c, facts, clauses), q) != holds {
				t.Fatal(c, q, l, facts, clauses)
			}
		})
	})
}

func TestP8_4NamesWhatIsNeeded(t *testing.T) {
	// a proof without exceptions names nothing without which the answer would be the same
	some(119, 2000, false, func(r *rand.Rand, c api.Rulebook, q api.Question) {
		holds, l, _ := statute.Decide(c, q)
		facts, clauses, _ := statute.Uses(c, q, l)
		d := only(c, facts, clauses)
		if !holds || slices.ContainsFunc(d.Clauses, func(x api.Clause) bool { return len(x.Bars) > 0 }) {
			return
		}
		for i := range facts {
			if answer(t, only(d, slices.Delete(counted(len(facts)), i, i+1), counted(len(clauses))), q) {
				t.Fatal(c, q, l, i)
			}
		}
		for i := range clauses {
			if answer(t, only(d, counted(len(facts)), slices.Delete(counted(len(clauses)), i, i+1)), q) {
				t.Fatal(c, q, l, i)
			}
		}
	})
}

// inserted returns an ascending list with a further number, and whether a clause can have
// it.
func inserted(l []int, n int) ([]int, bool) {
	i, found := slices.BinarySearch(l, n)
	return slices.Insert(slices.Clone(l), i, n), !found && len(l) < 4
}

func TestP8_6Exceptions(t *testing.T) {
	var changes [2]int
	some(120, 1500, false, func(r *rand.Rand, c api.Rulebook, q api.Question) {
		is := so(c, q)
		for i, x := range c.Clauses {
			for n := range x.Gives {
				d, ok := copied(c), false
				if is[n] {
					d.Clauses[i].Needs, ok = inserted(x.Needs, n)
				} else {
					d.Clauses[i].Bars, ok = inserted(x.Bars, n)
				}
				if !ok {
					continue
				}
				if answer(t, d, q) != is[q.Says] {
					t.Fatal(c, d, q)
				}
				if x.Gives == q.Says && is[n] {
					changes[1]++
				} else if x.Gives == q.Says {
					changes[0]++
				}
			}
		}
	})
	if changes[0] < 300 || changes[1] < 300 {
		t.Error(changes)
	}
}

func TestP8_6ExceptionsThatAreSo(t *testing.T) {
	q := ask(400, 400)
	for _, x := range []struct {
		needs, bars []int
		want        bool
	}{
		{[]int{0}, []int{2}, true}, {[]int{0}, []int{1, 2}, true}, {[]int{0}, []int{0, 2}, false}, {[]int{0, 1}, []int{2}, false}, {nil, []int{2}, true},
	} {
		c := example()
		c.Clauses[1].Published = 401
		c.Clauses[0].Needs, c.Clauses[0].Bars = x.needs, x.bars
		if answer(t, c, q) != x.want {
			t.Error(x)
		}
	}
}

func TestP8_6Repeals(t *testing.T) {
	changes := 0
	some(121, 1500, false, func(r *rand.Rand, c api.Rulebook, q api.Question) {
		if len(c.Clauses) == 0 {
			return
		}
		d := copied(c)
		x := api.Repeal{Clause: r.Intn(len(c.Clauses)), Published: r.Intn(12), From: r.Intn(12)}
		d.Repeals = append(d.Repeals, x)
		for q.At = range 14 {
			if q.At < x.From {
				checkSame(t, r, c, d, q)
			} else if answer(t, c, q) != answer(t, d, q) {
				changes++
			}
		}
	})
	if changes < 100 {
		t.Error(changes)
	}
}

func TestP8_6RepealsFromATimeOn(t *testing.T) {
	c := example()
	c.Clauses = c.Clauses[:1]
	d := copied(c)
	d.Repeals = []api.Repeal{{Clause: 0, Published: 350, From: 300}}
	for at := range 1001 {
		for _, known := range []int{0, 200, 349, 350, 351, 500} {
			repealed := at >= 300 && known >= 350
			if answer(t, d, ask(at, known)) != (answer(t, c, ask(at, known)) && !repealed) {
				t.Error(at, known)
			}
		}
	}
}

// unbarred returns rules without exceptions.
func unbarred(c api.Rulebook) api.Rulebook {
	d := copied(c)
	for i := range d.Clauses {
		d.Clauses[i].Bars = nil
	}
	return d
}

func TestP8_7WithoutExceptions(t *testing.T) {
	var stayed, came int
	some(122, 4000, false, func(r *rand.Rand, c api.Rulebook, q api.Question) {
		c = unbarred(c)
		more := unbarred(book(r, 20, r.Intn(10), 0, r.Intn(10)))
		d := copied(c)
		d.Clauses = append(d.Clauses, more.Clauses[:min(len(more.Clauses), 20-len(c.Clauses))]...)
		d.Facts = append(d.Facts, more.Facts[:min(len(more.Facts), 20-len(c.Facts))]...)
		for q.Says = range 20 {
			before, after := answer(t, c, q), answer(t, d, q)
			if before && !after {
				t.Fatal(c, d, q)
			}
			if before {
				stayed++
			} else if after {
				came++
			}
		}
	})
	if stayed < 5000 || came < 5000 {
		t.Error(stayed, came)
	}
}

func TestP8_7WhatItLeansOnAlone(t *testing.T) {
	fewer := 0
	some(123, 3000, false, func(r *rand.Rand, c api.Rulebook, q api.Question) {
		c = unbarred(c)
		holds, short, _ := statute.Decide(c, q)
		for _, l := range [][]api.Finding{short, full(c, q)} {
			facts, clauses, err := statute.Uses(c, q, l)
			if err != api.OK {
				t.Fatal(c, q, l)
			}
			d := only(c, facts, clauses)
			if answer(t, d, q) != holds {
				t.Fatal(c, d, q)
			}
			for other := q; other.Says < 19; other.Says++ {
				checkFewer(t, c, d, other, &fewer)
			}
			for other := q; other.Says > 0; other.Says-- {
				checkFewer(t, c, d, other, &fewer)
			}
		}
	})
	if fewer < 1000 {
		t.Error(fewer)
	}
}

// checkFewer checks that what is so by d is so by c, and counts what is so by c only.
func checkFewer(t *testing.T, c api.Rulebook, d api.Rulebook, q api.Question, fewer *int) {
	t.Helper()
	before, alone := answer(t, c, q), answer(t, d, q)
	if alone && !before {
		t.Fatal(c, d, q)
	}
	if before && !alone {
		*fewer++
	}
}
