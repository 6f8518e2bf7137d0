package statute_test

import (
	"math"
	"math/rand"
	"reflect"
	"slices"
	"testing"

	"dialtone/api"
	"dialtone/statute"
)

// example returns the rules of the chapter's examples.
func example() api.Rulebook {
	return api.Rulebook{
		Clauses: []api.Clause{
			{Published: 100, Spell: spell(200, 1000), Needs: []int{0}, Bars: []int{2}, Gives: 3},
			{Published: 300, Spell: spell(250, 1000), Needs: []int{1}, Gives: 3},
		},
		Facts: []api.Fact{
			{Thing: 7, Says: 0, Spell: spell(0, 1000), Known: spell(150, 1000)},
			{Thing: 7, Says: 2, Spell: spell(500, 1000), Known: spell(600, 1000)},
		},
	}
}

// ask returns the question of the chapter's examples.
func ask(at int, known int) api.Question {
	return api.Question{Thing: 7, Says: 3, At: at, Known: known}
}

// greatest returns rules with as many elements as they can have, and the greatest numbers.
func greatest() api.Rulebook {
	return api.Rulebook{
		Clauses: slices.Repeat([]api.Clause{{
			Published: 10000000, Spell: spell(10000000, end), Gives: 19,
			Needs: []int{0, 1, 17, 18}, Bars: []int{15, 16, 17, 18},
		}}, 20),
		Repeals: slices.Repeat([]api.Repeal{{Clause: 19, Published: 10000000, From: 10000000}}, 10),
		Facts: slices.Repeat([]api.Fact{{
			Thing: 99999999, Says: 19, Spell: always(), Known: spell(10000000, end),
		}}, 20),
	}
}

// checkNothing checks that all functions but Valid and Asks answer as they do for rules or a
// question that is not valid.
func checkNothing(t *testing.T, c api.Rulebook, q api.Question) {
	t.Helper()
	if holds, l, err := statute.Decide(c, q); holds || len(l) != 0 || err != api.ErrStatute {
		t.Error("Decide", c, q, holds, l, err)
	}
	if facts, clauses, err := statute.Applies(c, q); len(facts)+len(clauses) != 0 || err != api.ErrStatute {
		t.Error("Applies", c, q, facts, clauses, err)
	}
	for _, l := range [][]api.Finding{
		nil, {not(q.Says)}, {by(q.Says, 0, -1)}, {by(q.Says, -1, 0)}, {by(0, 0, -1), not(2), by(3, -1, 0)}, {not(1), by(2, 1, -1), not(3)},
	} {
		if statute.Check(c, q, true, l) || statute.Check(c, q, false, l) {
			t.Error("Check", c, q, l)
		}
		if facts, clauses, err := statute.Uses(c, q, l); len(facts)+len(clauses) != 0 || err != api.ErrStatute {
			t.Error("Uses", c, q, l, facts, clauses, err)
		}
	}
}

func TestP8_1Valid(t *testing.T) {
	for i, c := range []api.Rulebook{
		{},
		{Clauses: []api.Clause{}, Repeals: []api.Repeal{}, Facts: []api.Fact{}},
		example(),
		greatest(),
		{Clauses: []api.Clause{{Spell: spell(0, 1)}}},
		{Clauses: []api.Clause{{Spell: spell(0, 1), Gives: 1, Needs: []int{0}, Bars: []int{0}}}, Repeals: []api.Repeal{{}}},
		{Clauses: []api.Clause{{Spell: always(), Gives: 19}}},
		{Facts: []api.Fact{{Spell: spell(0, 1), Known: spell(0, 1)}}},
	} {
		if !statute.Valid(c) {
			t.Error(i)
		}
		if _, l, err := statute.Decide(c, ask(0, 0)); err != api.OK || len(l) == 0 {
			t.Error(i, l, err)
		}
	}
}

// badNumbers returns numbers that are less than 0 or greater than most.
func badNumbers(most int) []int {
	return []int{-1, most + 1, most + 2, math.MinInt, math.MaxInt, -most - 1, most + 1<<32}
}

// badSpells returns spells that are not valid.
func badSpells() []api.Spell {
	return []api.Spell{
		{}, spell(5, 5), spell(6, 5), spell(-1, 5), spell(-2, -1), spell(5, end+1), spell(end, end), spell(end, end+1), spell(end-1, end+1),
		spell(0, math.MaxInt), spell(math.MinInt, 5), spell(math.MinInt, math.MaxInt), spell(math.MaxInt, math.MinInt), spell(0, -1), spell(5, math.MinInt),
	}
}

// badTerms returns lists that a clause cannot have that gives 10.
func badTerms() [][]int {
	return [][]int{
		{-1}, {-1, 0}, {10}, {11}, {0, 10}, {1, 1}, {2, 1}, {0, 1, 3, 2}, {0, 1, 1, 2}, {0, 1, 2, 3, 4}, {5, 6, 7, 8, 9},
		{math.MaxInt}, {math.MinInt}, {0, math.MinInt}, {0, math.MaxInt}, slices.Repeat([]int{1}, 100), {3, 2, 1, 0}, {0, 0},
	}
}

func TestP8_1NotValid(t *testing.T) {
	var bad []api.Rulebook
	add := func(change func(c *api.Rulebook)) {
		c := copied(example())
		c.Repeals = []api.Repeal{{Clause: 1, Published: 5000, From: 5000}}
		change(&c)
		bad = append(bad, c)
	}
	for _, n := range badNumbers(10000000) {
		add(func(c *api.Rulebook) { c.Clauses[0].Published = n })
		add(func(c *api.Rulebook) { c.Clauses[1].Published = n })
		add(func(c *api.Rulebook) { c.Repeals[0].Published = n })
		add(func(c *api.Rulebook) { c.Repeals[0].From = n })
	}
	for _, n := range badNumbers(19) {
		add(func(c *api.Rulebook) { c.Clauses[0].Gives = n })
		add(func(c *api.Rulebook) { c.Clauses[1].Gives, c.Clauses[1].Needs = n, nil })
		add(func(c *api.Rulebook) { c.Facts[1].Says = n })
	}
	for _, n := range badNumbers(1) {
		add(func(c *api.Rulebook) { c.Repeals[0].Clause = n })
	}
	for _, n := range badNumbers(99999999) {
		add(func(c *api.Rulebook) { c.Facts[1].Thing = n })
	}
	for _, s := range badSpells() {
		add(func(c *api.Rulebook) { c.Clauses[1].Spell = s })
		add(func(c *api.Rulebook) { c.Facts[1].Spell = s })
		add(func(c *api.Rulebook) { c.Facts[1].Known = s })
	}
	for _, l := range badTerms() {
		add(func(c *api.Rulebook) { c.Clauses[1].Gives, c.Clauses[1].Needs = 10, l })
		add(func(c *api.Rulebook) { c.Clauses[1].Gives, c.Clauses[1].Bars = 10, l })
	}
	for n := range 3 {
		add(func(c *api.Rulebook) { c.Clauses[0].Gives = n })
	}
	for _, n := range []int{1, 2, 1000} {
		add(func(c *api.Rulebook) { c.Clauses = slices.Repeat(c.Clauses[:1], 20+n) })
		add(func(c *api.Rulebook) { c.Repeals = slices.Repeat(c.Repeals, 10+n) })
		add(func(c *api.Rulebook) { c.Facts = slices.Repeat(c.Facts[:1], 20+n) })
	}
	add(func(c *api.Rulebook) { c.Clauses = nil })
	add(func(c *api.Rulebook) { c.Clauses = c.Clauses[:1] })
	for _, c := range bad {
		if statute.Valid(c) || valid(c) {
			t.Error("valid", c)
		}
		checkNothing(t, c, ask(400, 400))
		checkNothing(t, c, api.Question{Thing: 7, Says: 0, At: 400, Known: 400})
		checkNothing(t, c, api.Question{Thing: -1})
	}
}

func TestP8_1Asks(t *testing.T) {
	for _, q := range []api.Question{
		{}, {Thing: 99999999}, {Says: 19}, {At: 10000000}, {Known: 10000000}, {Thing: 99999999, Says: 19, At: 10000000, Known: 10000000},
	} {
		holds, l, err := statute.Decide(api.Rulebook{}, q)
		if !statute.Asks(q) || holds || err != api.OK || !slices.Equal(l, []api.Finding{not(q.Says)}) {
			t.Error(q, holds, l, err)
		}
	}
	var bad []api.Question
	for _, n := range badNumbers(99999999) {
		bad = append(bad, api.Question{Thing: n})
	}
	for _, n := range badNumbers(19) {
		bad = append(bad, api.Question{Says: n})
	}
	for _, n := range badNumbers(10000000) {
		bad = append(bad, api.Question{At: n}, api.Question{Known: n})
	}
	for _, q := range bad {
		if statute.Asks(q) {
			t.Error(q)
		}
		for _, c := range []api.Rulebook{{}, example(), greatest()} {
			checkNothing(t, c, q)
		}
	}
}

func TestP8_1Examples(t *testing.T) {
	repealed := example()
	repealed.Repeals = []api.Repeal{{Clause: 0, Published: 350, From: 300}}
	needed := []api.Finding{by(0, 0, -1), not(2), by(3, -1, 0)}
	for i, x := range []struct {
		c     api.Rulebook
		q     api.Question
		holds bool
		l     []api.Finding
	}{
		{example(), ask(400, 400), true, needed},
		{example(), ask(700, 550), true, needed},
		{example(), ask(700, 650), false, []api.Finding{not(1), by(2, 1, -1), not(3)}},
		{example(), ask(199, 650), false, []api.Finding{not(3)}},
		{example(), ask(400, 120), false, []api.Finding{not(0), not(3)}},
		{repealed, ask(400, 400), false, []api.Finding{not(1), not(3)}},
	} {
		holds, l, err := statute.Decide(x.c, x.q)
		if err != api.OK || holds != x.holds || !slices.Equal(l, x.l) {
			t.Error(i, holds, l, err)
		}
		if !statute.Check(x.c, x.q, x.holds, x.l) || statute.Check(x.c, x.q, !x.holds, x.l) {
			t.Error(i)
		}
	}
}

func TestP8_1AppliesFromAndTo(t *testing.T) {
	c := api.Rulebook{
		Clauses: []api.Clause{{Published: 30, Spell: spell(10, 20)}, {Published: 30, Spell: spell(10, 20)}},
		Repeals: []api.Repeal{{Clause: 1, Published: 40, From: 15}},
		Facts:   []api.Fact{{Thing: 7, Says: 5, Spell: spell(10, 20), Known: spell(30, 40)}},
	}
	for _, x := range []struct {
		at, known      int
		facts, clauses []int
	}{
		{9, 30, nil, nil}, {10, 30, []int{0}, []int{0, 1}}, {19, 30, []int{0}, []int{0, 1}}, {20, 30, nil, nil},
		{10, 29, nil, nil}, {10, 39, []int{0}, []int{0, 1}}, {10, 40, nil, []int{0, 1}},
		{14, 40, nil, []int{0, 1}}, {15, 40, nil, []int{0}}, {15, 39, []int{0}, []int{0, 1}}, {16, 41, nil, []int{0}},
		{0, 10000000, nil, nil}, {10, 10000000, nil, []int{0, 1}}, {15, 10000000, nil, []int{0}}, {10000000, 30, nil, nil},
	} {
		for _, says := range []int{0, 5, 19} {
			q := api.Question{Thing: 7, Says: says, At: x.at, Known: x.known}
			facts, clauses, err := statute.Applies(c, q)
			if err != api.OK || !slices.Equal(facts, x.facts) || !slices.Equal(clauses, x.clauses) {
				t.Error(q, facts, clauses, err)
			}
		}
		for _, thing := range []int{0, 6, 8, 99999999} {
			q := api.Question{Thing: thing, At: x.at, Known: x.known}
			facts, clauses, err := statute.Applies(c, q)
			if err != api.OK || len(facts) != 0 || !slices.Equal(clauses, x.clauses) {
				t.Error(q, facts, clauses, err)
			}
		}
	}
	facts, clauses, err := statute.Applies(greatest(), api.Question{Thing: 99999999, At: 10000000, Known: 10000000})
	if err != api.OK || !slices.Equal(facts, counted(20)) || !slices.Equal(clauses, counted(19)) {
		t.Error(facts, clauses, err)
	}
}

// counted returns the numbers from 0 up to n, without n.
func counted(n int) []int {
	var l []int
	for i := range n {
		l = append(l, i)
	}
	return l
}

func TestP8_1Applies(t *testing.T) {
	some(101, 5000, false, func(r *rand.Rand, c api.Rulebook, q api.Question) {
		if !statute.Valid(c) || !statute.Asks(q) || !valid(c) {
			t.Fatal(c, q)
		}
		wantFacts, wantClauses := applying(c, q)
		facts, clauses, err := statute.Applies(c, q)
		if err != api.OK || !slices.Equal(facts, wantFacts) || !slices.Equal(clauses, wantClauses) {
			t.Fatal(c, q, facts, clauses, err)
		}
	})
}

// spoil overwrites a slice, with its spare capacity.
func spoil[T any](l []T, x T) {
	l = l[:cap(l)]
	for i := range l {
		l[i] = x
	}
}

// spacious returns a slice with the same elements, and spare capacity with others.
func spacious[T any](l []T, other T) []T {
	l = append(slices.Clone(l), other, other, other)
	return l[:len(l)-3]
}

// answers returns what all functions answer, after it has spoiled their results once.
func answers(c api.Rulebook, q api.Question, l []api.Finding) []any {
	for range 2 {
		_, proof, _ := statute.Decide(c, q)
		facts, clauses, _ := statute.Applies(c, q)
		facts2, clauses2, _ := statute.Uses(c, q, l)
		for i, x := range [][]int{facts, clauses, facts2, clauses2} {
			spoil(x, 50+i)
		}
		spoil(proof, by(60, 61, 62))
		for i, x := range [][]int{facts, clauses, facts2, clauses2} {
			if slices.ContainsFunc(x, func(n int) bool { return n != 50+i }) {
				return []any{"two results share memory"}
			}
		}
	}
	holds, proof, err := statute.Decide(c, q)
	facts, clauses, err2 := statute.Applies(c, q)
	facts2, clauses2, err3 := statute.Uses(c, q, l)
	return []any{
		statute.Valid(c), statute.Asks(q), statute.Check(c, q, true, l), statute.Check(c, q, false, l), holds, err, err2, err3,
		slices.Concat(proof, []api.Finding{}), slices.Concat(facts, []int{-1}, clauses), slices.Concat(facts2, []int{-1}, clauses2),
	}
}

func TestP8_1Memory(t *testing.T) {
	some(102, 1000, false, func(r *rand.Rand, c api.Rulebook, q api.Question) {
		_, proof, _ := statute.Decide(c, q)
		want := answers(c, q, proof)
		wide := api.Rulebook{
			Clauses: spacious(c.Clauses, api.Clause{Gives: 99}),
			Repeals: spacious(c.Repeals, api.Repeal{Clause: 99}),
			Facts:   spacious(c.Facts, api.Fact{Says: 99}),
		}
		for i, x := range wide.Clauses {
			wide.Clauses[i].Needs, wide.Clauses[i].Bars = spacious(x.Needs, 99), spacious(x.Bars, 99)
		}
		l := spacious(proof, not(99))
		if got := answers(wide, q, l); !reflect.DeepEqual(got, want) {
			t.Fatal(c, q, got, want)
		}
		if !slices.Equal(l, proof) || !reflect.DeepEqual(normal(wide), normal(c)) {
			t.Fatal("an argument was changed", wide, c)
		}
		if !spareIs(wide.Clauses, func(x api.Clause) bool { return x.Gives == 99 }) || !spareIs(wide.Repeals, func(x api.Repeal) bool { return x.Clause == 99 }) ||
			!spareIs(wide.Facts, func(x api.Fact) bool { return x.Says == 99 }) || !spareIs(l, func(x api.Finding) bool { return x == not(99) }) {
			t.Fatal("spare capacity was written to", wide)
		}
		for _, x := range wide.Clauses {
			if !spareIs(x.Needs, func(n int) bool { return n == 99 }) || !spareIs(x.Bars, func(n int) bool { return n == 99 }) {
				t.Fatal("spare capacity was written to", wide)
			}
		}
	})
}

// spareIs reports whether the three elements after those of l are as is says.
func spareIs[T any](l []T, is func(x T) bool) bool {
	return !slices.ContainsFunc(l[len(l):len(l)+3], func(x T) bool { return !is(x) })
}

// normal returns rules without nil slices.
func normal(c api.Rulebook) api.Rulebook {
	d := api.Rulebook{Clauses: []api.Clause{}, Repeals: append([]api.Repeal{}, c.Repeals...), Facts: append([]api.Fact{}, c.Facts...)}
	for _, x := range c.Clauses {
		x.Needs, x.Bars = append([]int{}, x.Needs...), append([]int{}, x.Bars...)
		d.Clauses = append(d.Clauses, x)
	}
	return d
}

func TestP8_1NilOrEmpty(t *testing.T) {
	some(103, 500, false, func(r *rand.Rand, c api.Rulebook, q api.Question) {
		_, l, _ := statute.Decide(c, q)
		if got, want := answers(normal(c), q, l), answers(c, q, l); !reflect.DeepEqual(got, want) {
			t.Fatal(c, q, got, want)
		}
	})
	if statute.Check(example(), ask(400, 400), false, []api.Finding{}) || statute.Check(example(), ask(400, 400), true, nil) {
		t.Error("an empty list proves nothing")
	}
}

func TestP8_1SameForEqualArguments(t *testing.T) {
	some(104, 500, false, func(r *rand.Rand, c api.Rulebook, q api.Question) {
		_, l, _ := statute.Decide(c, q)
		for range 5 {
			if _, again, _ := statute.Decide(copied(c), q); !slices.Equal(again, l) {
				t.Fatal(c, q, l, again)
			}
		}
	})
}
