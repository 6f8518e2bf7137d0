package integer_test

import (
	"math/big"
	"math/rand"
	"strings"
	"testing"

	"dialtone/api"
	"dialtone/integer"
)

// operation is a function of two integers, and what it is to calculate.
type operation struct {
	name string
	call func(a string, b string) (string, api.Errno)
	want func(a *big.Int, b *big.Int) *big.Int
}

// operations are the functions of two integers that have one result.
func operations() []operation {
	return []operation{
		{"Add", integer.Add, func(a, b *big.Int) *big.Int { return new(big.Int).Add(a, b) }},
		{"Sub", integer.Sub, func(a, b *big.Int) *big.Int { return new(big.Int).Sub(a, b) }},
		{"Mul", integer.Mul, func(a, b *big.Int) *big.Int { return new(big.Int).Mul(a, b) }},
		{"Gcd", integer.Gcd, func(a, b *big.Int) *big.Int {
			return new(big.Int).GCD(nil, nil, new(big.Int).Abs(a), new(big.Int).Abs(b))
		}},
	}
}

// expected is the integer of a result, or ErrInteger if it has too many digits.
func expected(n *big.Int) (string, api.Errno) {
	if s := n.String(); canonical.MatchString(s) {
		return s, api.OK
	}
	return "", api.ErrInteger
}

// checkPair compares all functions of two valid integers with math/big.
func checkPair(t *testing.T, a string, b string) {
	t.Helper()
	x, y := numberOf(a), numberOf(b)
	for _, o := range operations() {
		want, wantErr := expected(o.want(x, y))
		if got, err := o.call(a, b); got != want || err != wantErr {
			t.Errorf("%s(%s, %s) = %q, error %d; want %q, error %d", o.name, a, b, got, err, want, wantErr)
		}
	}
	if got := integer.Compare(a, b); got != x.Cmp(y) {
		t.Errorf("Compare(%s, %s) = %d", a, b, got)
	}
	checkDiv(t, a, b)
}

// checkDiv compares Div with math/big, whose DivMod has remainders from 0 on, too.
func checkDiv(t *testing.T, a string, b string) {
	t.Helper()
	x, y := numberOf(a), numberOf(b)
	q, r, err := integer.Div(a, b)
	if y.Sign() == 0 {
		if q != "" || r != "" || err != api.ErrInteger {
			t.Errorf("Div(%s, %s) = %q, %q, error %d; want ErrInteger", a, b, q, r, err)
		}
		return
	}
	wantQ, wantR := new(big.Int).DivMod(x, y, new(big.Int))
	if q != wantQ.String() || r != wantR.String() || err != api.OK {
		t.Errorf("Div(%s, %s) = %q, %q, error %d; want %s, %s", a, b, q, r, err, wantQ, wantR)
	}
}

// validEdges are the edges that are valid integers.
func validEdges() []string {
	var l []string
	for _, s := range edges() {
		if canonical.MatchString(s) {
			l = append(l, s)
		}
	}
	return l
}

func TestP3_1Small(t *testing.T) {
	for a := -40; a <= 40; a++ {
		for b := -40; b <= 40; b++ {
			checkPair(t, integer.FromInt(a), integer.FromInt(b))
		}
	}
}

func TestP3_1Edges(t *testing.T) {
	for _, a := range validEdges() {
		for _, b := range validEdges() {
			checkPair(t, a, b)
		}
	}
}

func TestP3_1Random(t *testing.T) {
	r := rand.New(rand.NewSource(1))
	for range 3000 {
		digits := 1 + r.Intn(api.MaxDigits)
		checkPair(t, randomInteger(r, digits), randomInteger(r, 1+r.Intn(digits)))
	}
}

// P3.1: quotients with groups of zeros and nines, and remainders at both ends of their bounds.
func TestP3_1LongDivisions(t *testing.T) {
	r := rand.New(rand.NewSource(2))
	for range 4000 {
		q, b := numberOf(randomInteger(r, 100)), numberOf(randomInteger(r, 99))
		for _, pattern := range []string{"00000000", "99999999", "00010000", "99989999", "00000001"} {
			if r.Intn(4) == 0 {
				q.Add(q.Mul(q, power(8)), numberOf(pattern))
			}
		}
		for _, rest := range []*big.Int{big.NewInt(-1), big.NewInt(0), big.NewInt(1)} {
			a := new(big.Int).Add(new(big.Int).Mul(q, b), rest)
			if canonical.MatchString(a.String()) {
				checkDiv(t, a.String(), b.String())
			}
		}
	}
}

// P3.1: results of exactly 200 digits, and of 201.
func TestP3_1MostDigits(t *testing.T) {
	ten := func(n int) string { return power(n).String() }
	half := new(big.Int).Quo(numberOf(most), big.NewInt(2)).String()
	for _, c := range []struct {
		name string
		call func(a string, b string) (string, api.Errno)
		a, b string
		ok   bool
	}{
		{"Add", integer.Add, most, "1", false}, {"Add", integer.Add, "-" + most, "-1", false}, {"Add", integer.Add, most, "0", true},
		{"Add", integer.Add, most, "-" + most, true}, {"Add", integer.Add, most, most, false}, {"Add", integer.Add, half, half, true},
		{"Sub", integer.Sub, most, "-1", false}, {"Sub", integer.Sub, "-" + most, "1", false}, {"Sub", integer.Sub, "0", most, true},
		{"Sub", integer.Sub, most, most, true}, {"Sub", integer.Sub, most, "-" + most, false}, {"Sub", integer.Sub, "-1", "-" + most, true},
		{"Mul", integer.Mul, ten(100), ten(100), false}, {"Mul", integer.Mul, ten(100), ten(99), true}, {"Mul", integer.Mul, "-" + ten(100), ten(100), false},
		{"Mul", integer.Mul, most[:100], most[:100], true}, {"Mul", integer.Mul, ten(100), "-" + most[:100], true}, {"Mul", integer.Mul, most[:101], most[:101], false},
		{"Mul", integer.Mul, most, most, false}, {"Mul", integer.Mul, most, "-1", true}, {"Mul", integer.Mul, most, "2", false}, {"Mul", integer.Mul, "0", "-" + most, true},
		{"Gcd", integer.Gcd, most, "-" + most, true}, {"Gcd", integer.Gcd, "0", "-" + most, true},
	} {
		got, err := c.call(c.a, c.b)
		if c.ok != (err == api.OK) || c.ok != integer.Valid(got) || !c.ok && (got != "" || err != api.ErrInteger) {
			t.Errorf("%s(%s, %s) = %q, error %d", c.name, c.a, c.b, got, err)
		}
	}
	for _, b := range []string{"1", "-1", "2", "-2", "3", most, "-" + most} {
		checkDiv(t, most, b)
		checkDiv(t, "-"+most, b)
	}
}

// P3.1: arguments that are not valid, in each place, beside valid and invalid ones.
func TestP3_1Invalid(t *testing.T) {
	refuse := func(a string, b string) {
		for _, o := range operations() {
			if s, err := o.call(a, b); s != "" || err != api.ErrInteger {
				t.Errorf("%s(%.40q, %.40q) = %q, error %d; want ErrInteger", o.name, a, b, s, err)
			}
		}
		if q, r, err := integer.Div(a, b); q != "" || r != "" || err != api.ErrInteger {
			t.Errorf("Div(%.40q, %.40q) = %q, %q, error %d; want ErrInteger", a, b, q, r, err)
		}
		if c := integer.Compare(a, b); c != 0 {
			t.Errorf("Compare(%.40q, %.40q) = %d", a, b, c)
		}
	}
	for _, bad := range invalid() {
		for _, other := range append([]string{"0", "1", "-1", "7", most, "-" + most}, invalid()...) {
			refuse(bad, other)
			refuse(other, bad)
		}
	}
}

func TestP3_1DivByZero(t *testing.T) {
	for _, a := range validEdges() {
		checkDiv(t, a, "0")
	}
}

func TestP3_1Roots(t *testing.T) {
	r := rand.New(rand.NewSource(3))
	l := validEdges()
	for n := range 20000 {
		l = append(l, integer.FromInt(n))
	}
	for range 2000 {
		l = append(l, randomInteger(r, api.MaxDigits))
	}
	for _, s := range l {
		got, err := integer.Root(s)
		if strings.HasPrefix(s, "-") {
			if got != "" || err != api.ErrInteger {
				t.Errorf("Root(%s) = %q, error %d; want ErrInteger", s, got, err)
			}
		} else if want := new(big.Int).Sqrt(numberOf(s)).String(); got != want || err != api.OK {
			t.Errorf("Root(%s) = %q, error %d; want %s", s, got, err, want)
		}
	}
	for _, s := range invalid() {
		if got, err := integer.Root(s); got != "" || err != api.ErrInteger {
			t.Errorf("Root(%.40q) = %q, error %d; want ErrInteger", s, got, err)
		}
	}
}
