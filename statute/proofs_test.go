package statute_test

import (
	"math"
	"math/rand"
	"slices"
	"testing"

	"dialtone/api"
	"dialtone/statute"
)

// without returns l without its element i.
func without(l []api.Finding, i int) []api.Finding {
	return append(slices.Clone(l[:i]), l[i+1:]...)
}

// changed returns l with a random change.
func changed(r *rand.Rand, l []api.Finding) []api.Finding {
	l = slices.Clone(l)
	i := r.Intn(len(l))
	switch r.Intn(8) {
	case 0:
		return without(l, i)
	case 1:
		l[i].Holds = !l[i].Holds
	case 2:
		l[i].Fact = r.Intn(22) - 2
	case 3:
		l[i].Clause = r.Intn(22) - 2
	case 4:
		l[i].Says = r.Intn(24) - 2
	case 5:
		return slices.Insert(l, i, not(r.Intn(20)))
	case 6:
		l[i] = by(l[i].Says, r.Intn(22)-1, -1)
	case 7:
		l[i] = by(l[i].Says, -1, r.Intn(22)-1)
	}
	return l
}

// full returns a proof about q with a finding about each number up to its Says.
func full(c api.Rulebook, q api.Question) []api.Finding {
	var l []api.Finding
	for says := range q.Says + 1 {
		for _, f := range plausible(c)(says) {
			if right(c, q, l, f) {
				l = append(l, f)
				break
			}
		}
	}
	return l
}

// checkList compares what Check and Uses say of l with what the chapter says, and returns
// whether l is accepted, and for which answer.
func checkList(t *testing.T, c api.Rulebook, q api.Question, l []api.Finding) (bool, bool) {
	t.Helper()
	holds, ok := proves(c, q, l)
	if statute.Check(c, q, true, l) != (ok && holds) || statute.Check(c, q, false, l) != (ok && !holds) {
		t.Fatal("Check", c, q, l, holds, ok)
	}
	facts, clauses, err := statute.Uses(c, q, l)
	if !ok {
		if err != api.ErrStatute || len(facts)+len(clauses) != 0 {
			t.Fatal("Uses", c, q, l, facts, clauses, err)
		}
		return holds, ok
	}
	wantFacts, wantClauses := leans(c, q, l)
	if err != api.OK || !slices.Equal(facts, wantFacts) || !slices.Equal(clauses, wantClauses) {
		t.Fatal("Uses", c, q, l, facts, clauses, err, wantFacts, wantClauses)
	}
	return holds, ok
}

func TestP8_1Decide(t *testing.T) {
	var count [2]int
	some(105, 5000, false, func(r *rand.Rand, c api.Rulebook, q api.Question) {
		is := so(c, q)
		for q.Says = range 20 {
			holds, l, err := statute.Decide(c, q)
			if err != api.OK || holds != is[q.Says] {
				t.Fatal(c, q, holds, l, err)
			}
			if answer, ok := checkList(t, c, q, l); !ok || answer != holds {
				t.Fatal(c, q, holds, l)
			}
			if len(l) > 3 && holds {
				count[1]++
			} else if len(l) > 3 {
				count[0]++
			}
		}
	})
	if count[0] < 1000 || count[1] < 1000 {
		t.Error(count)
	}
}

func TestP8_1CheckAllLists(t *testing.T) {
	accepted := map[bool]int{}
	some(106, 300, true, func(r *rand.Rand, c api.Rulebook, q api.Question) {
		lists(4, plausible(c), func(l []api.Finding) {
			if holds, ok := checkList(t, c, q, l); ok {
				accepted[holds]++
			}
		})
	})
	if accepted[false] < 200 || accepted[true] < 200 {
		t.Error(accepted)
	}
}

func TestP8_1CheckAnything(t *testing.T) {
	r := rand.New(rand.NewSource(107))
	for range 20 {
		c := book(r, 2, r.Intn(3), 0, r.Intn(3))
		q := someQuestion(r, 2)
		lists(2, anything(c), func(l []api.Finding) { checkList(t, c, q, l) })
	}
}

func TestP8_1CheckChangedLists(t *testing.T) {
	some(108, 3000, false, func(r *rand.Rand, c api.Rulebook, q api.Question) {
		_, short, _ := statute.Decide(c, q)
		for _, l := range [][]api.Finding{short, full(c, q)} {
			if _, ok := checkList(t, c, q, l); !ok {
				t.Fatal(c, q, l)
			}
			checkList(t, c, q, changed(r, l))
			if len(l) > 1 {
				checkList(t, c, q, changed(r, changed(r, l)))
			}
			checkList(t, c, q, append(slices.Clone(l), not(r.Intn(20))))
			checkList(t, c, q, slices.Repeat(l, 2))
			slices.Reverse(l)
			checkList(t, c, q, l)
		}
	})
}

func TestP8_1CheckParticularLists(t *testing.T) {
	q := ask(400, 400)
	for i, l := range [][]api.Finding{
		{by(0, 0, -1), not(2), by(3, -1, 0)},
		{by(0, 0, -1), not(1), not(2), by(3, -1, 0)},
	} {
		if !statute.Check(example(), q, true, l) || statute.Check(example(), q, false, l) {
			t.Error(i)
		}
		for k := range l {
			for _, n := range []int{-2, 2, 20, math.MaxInt, math.MinInt, 1 << 32} {
				x := slices.Clone(l)
				x[k].Fact = n
				checkList(t, example(), q, x)
				x = slices.Clone(l)
				x[k].Clause = n
				checkList(t, example(), q, x)
				x = slices.Clone(l)
				x[k].Says = n
				checkList(t, example(), q, x)
			}
		}
	}
	for i, l := range [][]api.Finding{
		nil,
		{{}},
		{not(-1), by(0, 0, -1), not(2), by(3, -1, 0)},
		{not(math.MinInt), by(0, 0, -1), not(2), by(3, -1, 0)},
		{by(0, 0, -1), not(2)},
		{by(0, 0, -1), not(2), by(3, -1, 0), not(4)},
		{by(0, 0, -1), not(2), by(3, -1, 0), not(20)},
		{by(0, 0, -1), not(2), by(3, -1, 0), by(3, -1, 0)},
		{by(0, 0, -1), by(0, 0, -1), not(2), by(3, -1, 0)},
		{by(0, 0, -1), by(3, -1, 0), not(2)},
		{by(3, -1, 0)},
		{not(3)},
		// what is right without the others is looked for among them, too
		{by(0, 1, -1), not(2), by(3, -1, 0)},
		{by(0, 0, -1), not(1), {Says: 2, Fact: 0, Clause: -1}, by(3, -1, 0)},
		{by(0, 0, -1), not(1), {Says: 2, Fact: -1, Clause: 1}, by(3, -1, 0)},
		slices.Repeat([]api.Finding{not(3)}, 1<<20),
	} {
		if statute.Check(example(), q, true, l) || statute.Check(example(), q, false, l) {
			t.Error(i)
		}
		if facts, clauses, err := statute.Uses(example(), q, l); err != api.ErrStatute || len(facts)+len(clauses) != 0 {
			t.Error(i, facts, clauses, err)
		}
	}
	// each number of the greatest list has its finding
	var l []api.Finding
	for says := range 20 {
		l = append(l, not(says))
		if !statute.Check(api.Rulebook{}, api.Question{Says: says}, false, l) {
			t.Error(says)
		}
	}
	if last := append(slices.Clone(l), not(20)); statute.Check(api.Rulebook{}, api.Question{Says: 20}, false, last) || statute.Check(api.Rulebook{}, api.Question{Says: 19}, false, last) {
		t.Error(last)
	}
}

func TestP8_1Uses(t *testing.T) {
	c := example()
	c.Facts = append(c.Facts, c.Facts[0])
	c.Clauses = append(c.Clauses, c.Clauses[0], api.Clause{Spell: always(), Gives: 1, Needs: []int{0}, Bars: []int{0}})
	for i, x := range []struct {
		q              api.Question
		l              []api.Finding
		facts, clauses []int
	}{
		{ask(400, 400), []api.Finding{by(0, 0, -1), not(2), by(3, -1, 0)}, []int{0}, []int{0}},
		{ask(400, 400), []api.Finding{by(0, 2, -1), not(2), by(3, -1, 2)}, []int{2}, []int{2}},
		{ask(400, 400), []api.Finding{by(0, 2, -1), not(1), not(2), by(3, -1, 2)}, []int{2}, []int{2, 3}},
		{ask(700, 650), []api.Finding{by(0, 0, -1), not(1), by(2, 1, -1), not(3)}, []int{0, 1}, []int{0, 1, 2, 3}},
		{ask(220, 650), []api.Finding{by(0, 2, -1), not(2), by(3, -1, 2)}, []int{2}, []int{2}},
		{ask(199, 650), []api.Finding{not(3)}, nil, nil},
		{ask(199, 650), []api.Finding{not(2), not(3)}, nil, nil},
		{ask(240, 120), []api.Finding{not(0), not(3)}, nil, []int{0, 2}},
		{api.Question{Thing: 7, Says: 2, At: 700, Known: 700}, []api.Finding{by(2, 1, -1)}, []int{1}, nil},
	} {
		facts, clauses, err := statute.Uses(c, x.q, x.l)
		if err != api.OK || !slices.Equal(facts, x.facts) || !slices.Equal(clauses, x.clauses) {
			t.Error(i, facts, clauses, err)
		}
	}
}

func TestP8_2OneAnswer(t *testing.T) {
	some(109, 3000, false, func(r *rand.Rand, c api.Rulebook, q api.Question) {
		holds, l, err := statute.Decide(c, q)
		if err != api.OK || !statute.Check(c, q, holds, l) {
			t.Fatal(c, q, holds, l, err)
		}
		all := full(c, q)
		for range 20 {
			if statute.Check(c, q, !holds, l) || statute.Check(c, q, !holds, all) {
				t.Fatal(c, q, holds, l, all)
			}
			l, all = changed(r, l), changed(r, all)
			if len(l) == 0 || len(all) == 0 {
				break
			}
		}
	})
}

func TestP8_2NoListForTheOther(t *testing.T) {
	some(110, 300, true, func(r *rand.Rand, c api.Rulebook, q api.Question) {
		holds, _, _ := statute.Decide(c, q)
		lists(4, plausible(c), func(l []api.Finding) {
			if statute.Check(c, q, !holds, l) {
				t.Fatal(c, q, holds, l)
			}
		})
	})
}

func TestP8_2NoListOfAnything(t *testing.T) {
	r := rand.New(rand.NewSource(111))
	for range 20 {
		c := book(r, 2, 1, 0, 1)
		q := someQuestion(r, 2)
		holds, _, _ := statute.Decide(c, q)
		lists(3, anything(c), func(l []api.Finding) {
			if statute.Check(c, q, !holds, l) {
				t.Fatal(c, q, holds, l)
			}
		})
	}
}

func TestP8_5NothingSpare(t *testing.T) {
	lengths := map[int]int{}
	some(112, 4000, false, func(r *rand.Rand, c api.Rulebook, q api.Question) {
		holds, l, _ := statute.Decide(c, q)
		for i := range l {
			if statute.Check(c, q, holds, without(l, i)) {
				t.Fatal(c, q, l, i)
			}
		}
		lengths[len(l)]++
	})
	for n := 1; n <= 8; n++ {
		if lengths[n] < 10 {
			t.Error(lengths)
		}
	}
}

func TestP8_5NoPartOfIt(t *testing.T) {
	some(113, 500, false, func(r *rand.Rand, c api.Rulebook, q api.Question) {
		holds, l, _ := statute.Decide(c, q)
		if len(l) > 10 {
			return
		}
		for s := range 1<<len(l) - 1 {
			var part []api.Finding
			for i, f := range l {
				if s>>i&1 == 1 {
					part = append(part, f)
				}
			}
			if statute.Check(c, q, holds, part) {
				t.Fatal(c, q, l, part)
			}
		}
	})
}

func TestP8_5ParticularProofs(t *testing.T) {
	clause := func(gives int, needs []int, bars ...int) api.Clause {
		return api.Clause{Spell: always(), Needs: needs, Bars: bars, Gives: gives}
	}
	fact := api.Fact{Says: 0, Spell: always(), Known: always()}
	// of each of these, only one proof is not spare
	for i, x := range []struct {
		c api.Rulebook
		l []api.Finding
	}{
		// the second clause is not given for two reasons, one of which refutes the first one, too
		{api.Rulebook{Clauses: []api.Clause{clause(3, []int{2}), clause(3, []int{1, 2})}}, []api.Finding{not(2), not(3)}},
		{api.Rulebook{Clauses: []api.Clause{clause(3, []int{1, 2}), clause(3, []int{2})}}, []api.Finding{not(2), not(3)}},
		{api.Rulebook{Clauses: []api.Clause{clause(3, []int{1, 2}), clause(3, []int{1})}}, []api.Finding{not(1), not(3)}},
		// the need that is so refutes nothing
		{api.Rulebook{Clauses: []api.Clause{clause(3, []int{0}, 0)}, Facts: []api.Fact{fact}}, []api.Finding{by(0, 0, -1), not(3)}},
		{api.Rulebook{Clauses: []api.Clause{clause(3, []int{0, 2})}, Facts: []api.Fact{fact}}, []api.Finding{not(2), not(3)}},
		// a clause that failed was looked at before the one that gives it
		{api.Rulebook{Clauses: []api.Clause{clause(3, []int{1}), clause(3, nil)}}, []api.Finding{by(3, -1, 1)}},
		{api.Rulebook{Clauses: []api.Clause{clause(1, nil, 0), clause(2, []int{1}), clause(3, []int{2}), clause(3, []int{0})}, Facts: []api.Fact{fact}},
			[]api.Finding{by(0, 0, -1), by(3, -1, 3)}},
	} {
		if _, l, err := statute.Decide(x.c, api.Question{Says: 3}); err != api.OK || !slices.Equal(l, x.l) {
			t.Error(i, l, err)
		}
	}
}
