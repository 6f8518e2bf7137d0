package integer

import (
	"cmp"
	"slices"
	"sort"
	"strconv"
)

// A group has four decimal digits; it is a digit to the base 10000.
const (
	groupDigits = 4
	base        = 10000
)

// natural is an integer that is not negative, in groups, the most significant
// one first. The first group is not 0; the number 0 has no groups. The groups of
// a natural are never changed, so that naturals may share them.
type natural []int

// readNatural returns the number with these decimal digits.
func readNatural(digits string) natural {
	groups := make([]int, (len(digits)+groupDigits-1)/groupDigits)
	for i, digit := range []byte(digits) {
		after := len(digits) - 1 - i
		group := &groups[len(groups)-1-after/groupDigits]
		*group = *group*10 + int(digit-'0')
	}
	return carry(groups)
}

// text returns the decimal digits of the number.
func (a natural) text() string {
	if len(a) == 0 {
		return "0"
	}
	digits := []byte(strconv.Itoa(a[0]))
	for _, group := range a[1:] {
		// The 1 in front keeps the zeros with which the group begins.
		digits = append(digits, strconv.Itoa(base + group)[1:]...)
	}
	return string(digits)
}

// carry returns the number whose groups are the columns, each of which may also
// be negative or too large for a group; the number itself is not negative, and
// has no more groups than there are columns. The columns are its memory.
func carry(columns []int) natural {
	carried := 0
	for i := len(columns) - 1; i >= 0; i-- {
		sum := columns[i] + carried
		columns[i] = sum % base
		carried = sum / base
		if columns[i] < 0 {
			columns[i] += base
			carried--
		}
	}
	first := slices.IndexFunc(columns, func(group int) bool { return group != 0 })
	if first < 0 {
		return nil
	}
	return columns[first:]
}

// columns returns the groups of the number in the last of that many columns.
func (a natural) columns(count int) []int {
	l := make([]int, count)
	copy(l[count-len(a):], a)
	return l
}

// compare returns -1, 0 or 1, as a is less than, equal to or greater than b.
func (a natural) compare(b natural) int {
	if len(a) != len(b) {
		return cmp.Compare(len(a), len(b))
	}
	return slices.Compare(a, b)
}

// plus returns a + b.
func (a natural) plus(b natural) natural {
	sums := a.columns(max(len(a), len(b)) + 1)
	for i, group := range b {
		sums[len(sums)-len(b)+i] += group
	}
	return carry(sums)
}

// minus returns a - b, where b is at most a.
func (a natural) minus(b natural) natural {
	differences := a.columns(len(a))
	for i, group := range b {
		differences[len(differences)-len(b)+i] -= group
	}
	return carry(differences)
}

// scale returns a times a group.
func (a natural) scale(by int) natural {
	products := a.columns(len(a) + 1)
	for i := range products {
		products[i] *= by
	}
	return carry(products)
}

// extend returns a with a further group behind its last one.
func (a natural) extend(group int) natural {
	if len(a) == 0 && group == 0 {
		return nil
	}
	return slices.Concat(a, natural{group})
}

// times returns a * b: the sum of what a is times each group of b.
func (a natural) times(b natural) natural {
	return fold(b, nil, func(sum natural, group int) natural {
		return sum.extend(0).plus(a.scale(group))
	})
}

// fold returns what start becomes when step is applied to it and to the first
// element of l, then to the result and to the second element, and so on.
func fold[T, R any](l []T, start R, step func(R, T) R) R {
	result := start
	for _, x := range l {
		result = step(result, x)
	}
	return result
}

// divide returns the quotient and the remainder of a by b, which is not 0.
func (a natural) divide(b natural) (natural, natural) {
	// Fewer groups than b has are a number below b, which adds nothing to the quotient.
	known := min(len(a), len(b)-1)
	var quotient natural
	rest := a[:known]
	for _, group := range a[known:] {
		var next int
		next, rest = takeMost(rest.extend(group), b.scale)
		quotient = quotient.extend(next)
	}
	return quotient, rest
}

// root returns the greatest number whose square is at most a.
func (a natural) root() natural {
	var root, rest natural
	for i, group := range a {
		rest = rest.extend(group)
		if groupsAfter := len(a) - 1 - i; groupsAfter%2 == 1 {
			continue // two groups of a square give one of its root
		}
		twice := root.scale(2)
		var next int
		// The square of the root with a further group g is greater than that of
		// the root with a further 0 by g times the double root with a further g.
		next, rest = takeMost(rest, func(g int) natural { return twice.extend(g).scale(g) })
		root = root.extend(next)
	}
	return root
}

// takeMost returns the greatest group whose amount is at most rest, and what is
// left of rest without it. A greater group has a greater amount, and 0 has none.
func takeMost(rest natural, amount func(group int) natural) (int, natural) {
	most := sort.Search(base-1, func(group int) bool {
		return amount(group+1).compare(rest) > 0
	})
	return most, rest.minus(amount(most))
}
