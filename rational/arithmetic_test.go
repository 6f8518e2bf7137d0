package rational_test

import (
	"math/big"
	"math/rand"
	"strings"
	"testing"

	"dialtone/api"
	"dialtone/rational"
)

// fits returns n, or nil if it has more than 200 digits, or n is nil.
func fits(n *big.Int) *big.Int {
	if n == nil {
		return nil
	}
	return numberOf(n.String())
}

// product, sum and difference are nil if one of the numbers is nil, or the
// result has more than 200 digits.
func product(x *big.Int, y *big.Int) *big.Int {
	return calculated((*big.Int).Mul, x, y)
}

func sum(x *big.Int, y *big.Int) *big.Int {
	return calculated((*big.Int).Add, x, y)
}

func difference(x *big.Int, y *big.Int) *big.Int {
	return calculated((*big.Int).Sub, x, y)
}

func calculated(call func(*big.Int, *big.Int, *big.Int) *big.Int, x *big.Int, y *big.Int) *big.Int {
	if x == nil || y == nil {
		return nil
	}
	return fits(call(new(big.Int), x, y))
}

// operation is a function of two fractions, and what the chapter says of n and
// d, of which each part is nil if it is too large.
type operation struct {
	name string
	call func(a api.Ratio, b api.Ratio) (api.Ratio, api.Errno)
	want func(aNum, aDen, bNum, bDen *big.Int) (*big.Int, *big.Int)
}

func operations() []operation {
	return []operation{
		{"Add", rational.Add, func(aNum, aDen, bNum, bDen *big.Int) (*big.Int, *big.Int) {
			return sum(product(aNum, bDen), product(bNum, aDen)), product(aDen, bDen)
		}},
		{"Sub", rational.Sub, func(aNum, aDen, bNum, bDen *big.Int) (*big.Int, *big.Int) {
			return difference(product(aNum, bDen), product(bNum, aDen)), product(aDen, bDen)
		}},
		{"Mul", rational.Mul, func(aNum, aDen, bNum, bDen *big.Int) (*big.Int, *big.Int) {
			return product(aNum, bNum), product(aDen, bDen)
		}},
		{"Div", rational.Div, func(aNum, aDen, bNum, bDen *big.Int) (*big.Int, *big.Int) {
			return product(aNum, bDen), product(aDen, bNum)
		}},
	}
}

// checkPair checks all functions of two valid fractions.
func checkPair(t *testing.T, a api.Ratio, b api.Ratio) {
	t.Helper()
	for _, o := range operations() {
		num, den := o.want(numberOf(a.Num), numberOf(a.Den), numberOf(b.Num), numberOf(b.Den))
		got, err := o.call(a, b)
		checkReduced(t, got, err, num, den, o.name, a, b)
	}
	if got, want := rational.Compare(a, b), valueOf(a).Cmp(valueOf(b)); got != want {
		t.Errorf("Compare(%v, %v) = %d, want %d", a, b, got, want)
	}
}

func TestP4_1Small(t *testing.T) {
	l := small(7)
	for _, a := range l {
		for _, b := range l {
			checkPair(t, a, b)
		}
	}
}

func TestP4_1Edges(t *testing.T) {
	var l []api.Ratio
	for _, s := range []string{"0", "1", "-1", "1/2", "-2/3", "7", most, "-" + most, "1/" + most, "-1/" + most, ten(199), "1/" + ten(199), ten(100), "1/" + ten(100), "-" + ten(99) + "/7", "-7/" + ten(99), most[:100], "1/" + most[:100], most[:199] + "8/" + most, most + "/" + most[:199] + "8"} {
		l = append(l, ratio(s))
	}
	for _, a := range l {
		for _, b := range l {
			checkPair(t, a, b)
		}
	}
}

// P4.1: with digits such that products are sometimes too large, and sometimes not.
func TestP4_1Random(t *testing.T) {
	r := rand.New(rand.NewSource(4))
	for range 150 {
		digits := 90 + r.Intn(21)
		checkPair(t, randomRatio(r, digits), randomRatio(r, 200-digits))
		checkPair(t, randomRatio(r, digits), randomRatio(r, digits))
	}
}

// P4.1: of the integers that the definitions name, only one is too large, by one.
func TestP4_1TooLarge(t *testing.T) {
	add, sub, mul, div := rational.Add, rational.Sub, rational.Mul, rational.Div
	half := "5" + strings.Repeat("0", 199)
	for _, c := range []struct {
		name string
		call func(a api.Ratio, b api.Ratio) (api.Ratio, api.Errno)
		a, b string
		ok   bool
	}{
		{"Add, a.Num * b.Den", add, ten(100), "1/" + ten(100), false}, {"Add, a.Num * b.Den", add, ten(100), "1/" + ten(99), true},
		{"Add, b.Num * a.Den", add, "1/" + ten(100), ten(100), false}, {"Add, b.Num * a.Den", add, "1/" + ten(99), ten(100), true},
		{"Add, a.Den * b.Den", add, "1/" + ten(100), "1/" + ten(100), false}, {"Add, a.Den * b.Den", add, "1/" + ten(100), "1/" + ten(99), true},
		{"Add, the sum", add, half, half, false}, {"Add, the sum", add, half, "-" + half, true}, {"Add, the sum", add, most, "1", false}, {"Add, the sum", add, "-" + most, "1", true},
		{"Add, with 0", add, "0", "1/" + most, true}, {"Add, with 0", add, most, "0", true},
		{"Sub, a.Num * b.Den", sub, ten(100), "1/" + ten(100), false}, {"Sub, b.Num * a.Den", sub, "1/" + ten(100), ten(100), false},
		{"Sub, a.Den * b.Den", sub, "1/" + ten(100), "1/" + ten(100), false},
		{"Sub, the difference", sub, half, "-" + half, false}, {"Sub, the difference", sub, half, half, true}, {"Sub, the difference", sub, "-" + most, "1", false}, {"Sub, the difference", sub, most, "1", true},
		{"Mul, a.Num * b.Num", mul, ten(100), ten(100), false}, {"Mul, a.Num * b.Num", mul, ten(100), ten(99), true}, {"Mul, a.Num * b.Num", mul, ten(150), ten(150), false},
		{"Mul, a.Num * b.Num", mul, ten(100) + "/7", "7" + ten(100), false},
		{"Mul, a.Den * b.Den", mul, "1/" + ten(100), "1/" + ten(100), false}, {"Mul, a.Den * b.Den", mul, "1/" + ten(100), "1/" + ten(99), true},
		{"Mul, both cancel", mul, ten(199), "1/" + ten(199), true},
		{"Div, a.Num * b.Den", div, ten(100), "1/" + ten(100), false}, {"Div, a.Num * b.Den", div, ten(100), "1/" + ten(99), true},
		{"Div, a.Den * b.Num", div, "1/" + ten(100), ten(100), false}, {"Div, a.Den * b.Num", div, "1/" + ten(100), ten(99), true},
		{"Div, both cancel", div, most, most, true}, {"Div, both are negative", div, "-" + most, "-" + most, true}, {"Div, of 0", div, "0", most, true},
	} {
		got, err := c.call(ratio(c.a), ratio(c.b))
		if c.ok && (!isValid(got) || err != api.OK) {
			t.Errorf("%s of %s and %s = %v, error %d", c.name, c.a, c.b, got, err)
		} else if !c.ok {
			checkRefused(t, got, err, c.name, c.a, c.b)
		}
	}
}

func TestP4_1DivByZero(t *testing.T) {
	for _, a := range append(small(5), ratio(most), ratio("-1/"+most)) {
		got, err := rational.Div(a, ratio("0"))
		checkRefused(t, got, err, "Div", a, "0")
	}
}

// P4.1: arguments that are not valid, in each place, beside valid and invalid ones.
func TestP4_1Invalid(t *testing.T) {
	refuse := func(a api.Ratio, b api.Ratio) {
		for _, o := range operations() {
			got, err := o.call(a, b)
			checkRefused(t, got, err, o.name, a, b)
		}
		if got := rational.Compare(a, b); got != 0 {
			t.Errorf("Compare(%.200v, %.200v) = %d", a, b, got)
		}
	}
	others := []api.Ratio{ratio("0"), ratio("1"), ratio("-1"), ratio("1/2"), ratio("-7/3"), ratio(most), ratio("1/" + most)}
	for _, bad := range invalid() {
		for _, other := range append(others, invalid()...) {
			refuse(bad, other)
			refuse(other, bad)
		}
	}
}

// P4.1: fractions that agree in as many quotients as there can be, and those
// whose products have up to 400 digits.
func TestP4_1CompareLong(t *testing.T) {
	r := rand.New(rand.NewSource(5))
	old, next := big.NewInt(1), big.NewInt(1)
	var l []api.Ratio
	for n := 0; fits(sum(old, next)) != nil; n++ {
		old, next = next, sum(old, next)
		if n < 3 || n > 952 {
			l = append(l, api.Ratio{Num: next.String(), Den: old.String()}, api.Ratio{Num: "-" + old.String(), Den: next.String()})
		}
	}
	for range 6 {
		l = append(l, randomRatio(r, 200))
	}
	for _, s := range []string{most, "-" + most, "1/" + most, "-1/" + most, most[1:] + "8/" + most, most[2:] + "8/" + most[1:], most + "/" + most[1:] + "8", "1/" + most[1:] + "8", "0"} {
		l = append(l, ratio(s))
	}
	values := make([]*big.Rat, len(l))
	for i, x := range l {
		values[i] = valueOf(x)
	}
	for i, a := range l {
		for k, b := range l {
			if got, want := rational.Compare(a, b), values[i].Cmp(values[k]); got != want {
				t.Errorf("Compare(%v, %v) = %d, want %d", a, b, got, want)
			}
		}
	}
}
