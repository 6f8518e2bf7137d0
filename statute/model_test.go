package statute_test

import (
	"math/rand"
	"slices"

	"dialtone/api"
)

// end is the second after the last one that a spell can have.
const end = 10000001

// spell returns a spell.
func spell(from int, to int) api.Spell {
	return api.Spell{From: from, To: to}
}

// always is the spell of all seconds.
func always() api.Spell {
	return spell(0, end)
}

// by returns a finding that says is so.
func by(says int, fact int, clause int) api.Finding {
	return api.Finding{Says: says, Holds: true, Fact: fact, Clause: clause}
}

// not returns a finding that says is not so.
func not(says int) api.Finding {
	return api.Finding{Says: says, Fact: -1, Clause: -1}
}

// within reports whether n is from least to greatest.
func within(n int, least int, greatest int) bool {
	return n >= least && n <= greatest
}

// validSpell is what the chapter says of valid spells.
func validSpell(s api.Spell) bool {
	return 0 <= s.From && s.From < s.To && s.To <= end
}

// valid is what the chapter says of valid rules.
func valid(c api.Rulebook) bool {
	ok := len(c.Clauses) <= 20 && len(c.Repeals) <= 10 && len(c.Facts) <= 20
	for _, x := range c.Clauses {
		ok = ok && within(x.Published, 0, 10000000) && validSpell(x.Spell) && within(x.Gives, 0, 19)
		for _, l := range [][]int{x.Needs, x.Bars} {
			ok = ok && len(l) <= 4
			for i, n := range l {
				ok = ok && within(n, 0, x.Gives-1) && (i == 0 || l[i-1] < n)
			}
		}
	}
	for _, x := range c.Repeals {
		ok = ok && within(x.Clause, 0, len(c.Clauses)-1) && within(x.Published, 0, 10000000) && within(x.From, 0, 10000000)
	}
	for _, x := range c.Facts {
		ok = ok && within(x.Thing, 0, 99999999) && within(x.Says, 0, 19) && validSpell(x.Spell) && validSpell(x.Known)
	}
	return ok
}

// covers reports whether the second t is in s.
func covers(s api.Spell, t int) bool {
	return within(t, s.From, s.To-1)
}

// factApplies is what the chapter says of facts that apply.
func factApplies(f api.Fact, q api.Question) bool {
	return f.Thing == q.Thing && covers(f.Spell, q.At) && covers(f.Known, q.Known)
}

// clauseApplies is what the chapter says of clauses that apply.
func clauseApplies(c api.Rulebook, i int, q api.Question) bool {
	for _, r := range c.Repeals {
		if r.Clause == i && r.Published <= q.Known && r.From <= q.At {
			return false
		}
	}
	return c.Clauses[i].Published <= q.Known && covers(c.Clauses[i].Spell, q.At)
}

// applying returns the facts and the clauses that apply.
func applying(c api.Rulebook, q api.Question) ([]int, []int) {
	var facts, clauses []int
	for i, f := range c.Facts {
		if factApplies(f, q) {
			facts = append(facts, i)
		}
	}
	for i := range c.Clauses {
		if clauseApplies(c, i, q) {
			clauses = append(clauses, i)
		}
	}
	return facts, clauses
}

// so is what the chapter says of what is so, for all numbers.
func so(c api.Rulebook, q api.Question) [20]bool {
	var is [20]bool
	facts, clauses := applying(c, q)
	for n := range is {
		for _, i := range facts {
			is[n] = is[n] || c.Facts[i].Says == n
		}
		for _, i := range clauses {
			gives := c.Clauses[i].Gives == n
			for _, m := range c.Clauses[i].Needs {
				gives = gives && is[m]
			}
			for _, m := range c.Clauses[i].Bars {
				gives = gives && !is[m]
			}
			is[n] = is[n] || gives
		}
	}
	return is
}

// right is what the chapter says of a finding of l that is right.
func right(c api.Rulebook, q api.Question, l []api.Finding, f api.Finding) bool {
	found := func(n int, holds bool) bool {
		return slices.ContainsFunc(l, func(g api.Finding) bool { return g.Says == n && g.Holds == holds })
	}
	facts, clauses := applying(c, q)
	if f.Holds && f.Clause == -1 {
		return slices.Contains(facts, f.Fact) && c.Facts[f.Fact].Says == f.Says
	}
	if f.Holds {
		if f.Fact != -1 || !slices.Contains(clauses, f.Clause) || c.Clauses[f.Clause].Gives != f.Says {
			return false
		}
		for _, n := range c.Clauses[f.Clause].Needs {
			if !found(n, true) {
				return false
			}
		}
		for _, n := range c.Clauses[f.Clause].Bars {
			if !found(n, false) {
				return false
			}
		}
		return true
	}
	for _, i := range facts {
		if c.Facts[i].Says == f.Says {
			return false
		}
	}
	for _, i := range clauses {
		blocked := c.Clauses[i].Gives != f.Says
		for _, n := range c.Clauses[i].Needs {
			blocked = blocked || found(n, false)
		}
		for _, n := range c.Clauses[i].Bars {
			blocked = blocked || found(n, true)
		}
		if !blocked {
			return false
		}
	}
	return f.Fact == -1 && f.Clause == -1
}

// proves is what the chapter says of lists that are proofs, and which answer they prove.
func proves(c api.Rulebook, q api.Question, l []api.Finding) (bool, bool) {
	for i, f := range l {
		if !within(f.Says, 0, 19) || i > 0 && l[i-1].Says >= f.Says || !right(c, q, l, f) {
			return false, false
		}
	}
	if len(l) == 0 || l[len(l)-1].Says != q.Says {
		return false, false
	}
	return l[len(l)-1].Holds, true
}

// leans is what the chapter says of Uses.
func leans(c api.Rulebook, q api.Question, l []api.Finding) ([]int, []int) {
	var facts, clauses []int
	for i := range c.Facts {
		if slices.ContainsFunc(l, func(f api.Finding) bool { return f.Fact == i }) {
			facts = append(facts, i)
		}
	}
	for i, x := range c.Clauses {
		if slices.ContainsFunc(l, func(f api.Finding) bool {
			return f.Clause == i || !f.Holds && f.Says == x.Gives && clauseApplies(c, i, q)
		}) {
			clauses = append(clauses, i)
		}
	}
	return facts, clauses
}

// copied returns rules with the same elements in other memory.
func copied(c api.Rulebook) api.Rulebook {
	d := api.Rulebook{Clauses: slices.Clone(c.Clauses), Repeals: slices.Clone(c.Repeals), Facts: slices.Clone(c.Facts)}
	for i, x := range d.Clauses {
		d.Clauses[i].Needs, d.Clauses[i].Bars = slices.Clone(x.Needs), slices.Clone(x.Bars)
	}
	return d
}

// some calls use with many valid rules and questions: small ones, of up to four numbers, if
// small, and otherwise also the greatest ones.
func some(seed int64, times int, small bool, use func(r *rand.Rand, c api.Rulebook, q api.Question)) {
	r := rand.New(rand.NewSource(seed))
	for i := range times {
		n := 4
		c := book(r, n, r.Intn(4), r.Intn(2), r.Intn(3))
		if !small && i%2 == 0 {
			n = 20
			c = book(r, n, r.Intn(21), r.Intn(6), r.Intn(10))
		}
		if !small && i%8 == 0 {
			c = deep(r)
		}
		use(r, c, someQuestion(r, n))
	}
}

// book returns rules about the numbers below n and the things 0 and 1; many of the facts and
// clauses apply for questions by someQuestion.
func book(r *rand.Rand, n int, clauses int, repeals int, facts int) api.Rulebook {
	var c api.Rulebook
	for range clauses {
		c.Clauses = append(c.Clauses, someClause(r, r.Intn(n)))
	}
	for range min(repeals, 10*clauses) {
		c.Repeals = append(c.Repeals, api.Repeal{Clause: r.Intn(clauses), Published: r.Intn(12), From: r.Intn(12)})
	}
	for range facts {
		c.Facts = append(c.Facts, someFact(r, r.Intn(1+r.Intn(n))))
	}
	return c
}

// deep returns rules with a clause for each number but 0, which most often needs, or is
// barred by, some of those just below it.
func deep(r *rand.Rand) api.Rulebook {
	c := book(r, 2, 0, 0, 3)
	for n := 1; n < 20; n++ {
		x := someClause(r, n)
		x.Published, x.Spell, x.Needs, x.Bars = 0, always(), nil, nil
		for m := max(0, n-3); m < n; m++ {
			switch r.Intn(6) {
			case 0, 1:
				x.Needs = append(x.Needs, m)
			case 2, 3:
				x.Bars = append(x.Bars, m)
			}
		}
		c.Clauses = append(c.Clauses, x)
	}
	r.Shuffle(19, func(i int, j int) { c.Clauses[i], c.Clauses[j] = c.Clauses[j], c.Clauses[i] })
	return c
}

func someClause(r *rand.Rand, gives int) api.Clause {
	return api.Clause{Published: r.Intn(6), Spell: someSpell(r), Needs: terms(r, gives), Bars: terms(r, gives), Gives: gives}
}

func someFact(r *rand.Rand, says int) api.Fact {
	return api.Fact{Thing: r.Intn(5) / 4, Says: says, Spell: someSpell(r), Known: someSpell(r)}
}

func someQuestion(r *rand.Rand, n int) api.Question {
	return api.Question{Thing: r.Intn(5) / 4, Says: n - 1 - r.Intn(1+r.Intn(n)), At: r.Intn(12), Known: r.Intn(12)}
}

// someSpell returns a spell, often that of all seconds.
func someSpell(r *rand.Rand) api.Spell {
	if r.Intn(3) > 0 {
		return always()
	}
	from := r.Intn(8)
	return spell(from, from+1+r.Intn(8))
}

// terms returns up to four numbers below gives, ascending.
func terms(r *rand.Rand, gives int) []int {
	l := r.Perm(gives)[:r.Intn(min(gives, r.Intn(5))+1)]
	slices.Sort(l)
	return l
}

// plausible returns for each number the findings about it that name one fact of c, or one
// clause, or nothing.
func plausible(c api.Rulebook) func(says int) []api.Finding {
	return func(says int) []api.Finding {
		l := []api.Finding{not(says)}
		for i := range c.Facts {
			l = append(l, by(says, i, -1))
		}
		for i := range c.Clauses {
			l = append(l, by(says, -1, i))
		}
		return l
	}
}

// anything returns for each number all findings about it, with one fact and one clause more
// than c has.
func anything(c api.Rulebook) func(says int) []api.Finding {
	return func(says int) []api.Finding {
		var l []api.Finding
		for fact := -2; fact <= len(c.Facts); fact++ {
			for clause := -2; clause <= len(c.Clauses); clause++ {
				l = append(l, by(says, fact, clause), api.Finding{Says: says, Fact: fact, Clause: clause})
			}
		}
		return l
	}
}

// lists calls use with all lists that have at most one of the findings about each number
// below n, ascending.
func lists(n int, findings func(says int) []api.Finding, use func(l []api.Finding)) {
	var from func(l []api.Finding, says int)
	from = func(l []api.Finding, says int) {
		if says == n {
			use(l)
			return
		}
		from(l, says+1)
		for _, f := range findings(says) {
			from(append(slices.Clone(l), f), says+1)
		}
	}
	from(nil, 0)
}
