package clock

import (
	"cmp"
	"slices"

	"dialtone/api"
)

// change is by how many the spells that have a second become more, or fewer, at this one.
type change struct {
	at int
	by int
}

// Agree returns the first seconds that are in as many spells of l as any second is, and
// the number of these spells.
func Agree(l []api.Spell) (api.Spell, int) {
	var best api.Spell
	most, now, open := 0, 0, false
	all := changes(l)
	for i, c := range all {
		now += c.by
		if i+1 < len(all) && all[i+1].at == c.at {
			continue // what ends and what begins at a second counts together
		}
		switch {
		case now > most:
			best.From, most, open = c.at, now, true
		case now < most && open:
			best.To, open = c.at, false
		}
	}
	return best, most
}

// changes returns the changes that the spells of l make, in the order of their seconds.
func changes(l []api.Spell) []change {
	var all []change
	for _, s := range l {
		if s.From < s.To {
			all = append(all, change{s.From, 1}, change{s.To, -1})
		}
	}
	slices.SortFunc(all, func(a change, b change) int { return cmp.Compare(a.at, b.at) })
	return all
}
