package integer_test

import (
	"math/big"
	"math/rand"
	"testing"

	"dialtone/api"
	"dialtone/integer"
)

// result is the result of an operation that is not to fail.
func result(t *testing.T, call func(a string, b string) (string, api.Errno), a string, b string) string {
	t.Helper()
	s, err := call(a, b)
	if err != api.OK {
		t.Fatalf("%s, %s: error %d", a, b, err)
	}
	return s
}

// same checks that both ways to a number lead to the same integer.
func same(t *testing.T, law string, got string, want string, of ...string) {
	t.Helper()
	if got != want {
		t.Errorf("%s of %q: %q and %q", law, of, got, want)
	}
}

// triple returns three integers of at most that many digits.
func triple(r *rand.Rand, digits int) (string, string, string) {
	return randomInteger(r, digits), randomInteger(r, digits), randomInteger(r, digits)
}

// P3.2: 0 is the same from whichever function, and has no sign.
func TestP3_2Zero(t *testing.T) {
	for _, x := range validEdges() {
		opposite := result(t, integer.Sub, "0", x)
		same(t, "Add", result(t, integer.Add, x, opposite), "0", x)
		same(t, "Sub", result(t, integer.Sub, x, x), "0", x)
		same(t, "Mul", result(t, integer.Mul, x, "0"), "0", x)
		same(t, "Mul", result(t, integer.Mul, "0", x), "0", x)
		if x == "0" {
			continue
		}
		for _, multiple := range []string{"0", x} {
			_, rest, _ := integer.Div(multiple, x)
			same(t, "Div", rest, "0", multiple, x)
		}
		quotient, _, _ := integer.Div("0", x)
		same(t, "Div", quotient, "0", x)
	}
	same(t, "Gcd", result(t, integer.Gcd, "0", "0"), "0")
	root, _ := integer.Root("0")
	same(t, "Root", root, "0")
	same(t, "FromInt", integer.FromInt(0), "0")
}

// P3.2: whatever way leads to a number, the integer is the same valid one.
func TestP3_2SameInteger(t *testing.T) {
	r := rand.New(rand.NewSource(4))
	for range 2000 {
		x, y, _ := triple(r, 99)
		if y == "0" {
			continue
		}
		product := result(t, integer.Mul, x, y)
		quotient, _, _ := integer.Div(product, y)
		same(t, "Div of Mul", quotient, x, x, y)
		same(t, "Add of Sub", result(t, integer.Add, result(t, integer.Sub, x, y), y), x, x, y)
		same(t, "Sub of Add", result(t, integer.Sub, result(t, integer.Add, x, y), y), x, x, y)
		same(t, "Mul by 1", result(t, integer.Mul, x, "1"), x, x)
		square := result(t, integer.Mul, x, x)
		root, _ := integer.Root(square)
		same(t, "Root and Gcd", root, result(t, integer.Gcd, x, "0"), x)
		for _, s := range []string{product, quotient, square, root} {
			if !integer.Valid(s) {
				t.Errorf("%q, of %s and %s, is not valid", s, x, y)
			}
		}
	}
}

func TestP3_3Sums(t *testing.T) {
	r := rand.New(rand.NewSource(5))
	for range 3000 {
		a, b, c := triple(r, 199)
		ab, bc := result(t, integer.Add, a, b), result(t, integer.Add, b, c)
		same(t, "commutative sum", ab, result(t, integer.Add, b, a), a, b)
		same(t, "associative sum", result(t, integer.Add, ab, c), result(t, integer.Add, a, bc), a, b, c)
		difference := result(t, integer.Sub, a, b)
		same(t, "difference", result(t, integer.Add, b, difference), a, a, b)
		same(t, "opposite difference", result(t, integer.Sub, "0", difference), result(t, integer.Sub, b, a), a, b)
	}
}

func TestP3_3Products(t *testing.T) {
	r := rand.New(rand.NewSource(6))
	for range 3000 {
		a, b, c := triple(r, 66)
		ab, bc := result(t, integer.Mul, a, b), result(t, integer.Mul, b, c)
		same(t, "commutative product", ab, result(t, integer.Mul, b, a), a, b)
		same(t, "associative product", result(t, integer.Mul, ab, c), result(t, integer.Mul, a, bc), a, b, c)
		sum := result(t, integer.Add, b, c)
		ac := result(t, integer.Mul, a, c)
		same(t, "distributive product", result(t, integer.Mul, a, sum), result(t, integer.Add, ab, ac), a, b, c)
	}
}

// P3.4: of the quotients beside the one of Div, none leaves a remainder in the bounds.
func TestP3_4Division(t *testing.T) {
	r := rand.New(rand.NewSource(7))
	for range 3000 {
		a, b := randomInteger(r, 200), randomInteger(r, 1+r.Intn(200))
		if b == "0" {
			continue
		}
		q, rest, err := integer.Div(a, b)
		if err != api.OK {
			t.Fatalf("Div(%s, %s): error %d", a, b, err)
		}
		x, y, quotient := numberOf(a), numberOf(b), numberOf(q)
		for d := int64(-2); d <= 2; d++ {
			other := new(big.Int).Add(quotient, big.NewInt(d))
			left := new(big.Int).Sub(x, other.Mul(other, y))
			inBounds := left.Sign() >= 0 && left.CmpAbs(y) < 0
			if inBounds != (d == 0) || d == 0 && left.String() != rest {
				t.Errorf("Div(%s, %s) = %s, %s; the remainder for the quotient and %d more is %s", a, b, q, rest, d, left)
			}
		}
	}
}

// P3.4: the same by the functions of the package alone.
func TestP3_4DivisionUndone(t *testing.T) {
	r := rand.New(rand.NewSource(8))
	for range 3000 {
		a, b := randomInteger(r, 199), randomInteger(r, 1+r.Intn(199))
		if b == "0" {
			continue
		}
		q, rest, _ := integer.Div(a, b)
		same(t, "Div undone", result(t, integer.Add, result(t, integer.Mul, q, b), rest), a, a, b)
		if size := result(t, integer.Gcd, b, "0"); integer.Compare(rest, "0") < 0 || integer.Compare(rest, size) >= 0 {
			t.Errorf("Div(%s, %s) leaves %s", a, b, rest)
		}
	}
}

// divides reports whether the integer d divides n; 0 divides 0 alone.
func divides(d string, n string) bool {
	if d == "0" {
		return n == "0"
	}
	_, rest, err := integer.Div(n, d)
	return err == api.OK && rest == "0"
}

// P3.5: all common divisors of small integers are tried.
func TestP3_5AllDivisors(t *testing.T) {
	for a := -60; a <= 60; a++ {
		for b := -60; b <= 60; b++ {
			x, y := integer.FromInt(a), integer.FromInt(b)
			gcd := result(t, integer.Gcd, x, y)
			if !divides(gcd, x) || !divides(gcd, y) || integer.Compare(gcd, "0") < 0 {
				t.Errorf("Gcd(%d, %d) = %s", a, b, gcd)
			}
			for d := -60; d <= 60; d++ {
				if s := integer.FromInt(d); divides(s, x) && divides(s, y) && !divides(s, gcd) {
					t.Errorf("Gcd(%d, %d) = %s, but %d is a common divisor", a, b, gcd, d)
				}
			}
		}
	}
}

// P3.5: long integers with a long common divisor that is known.
func TestP3_5LongDivisors(t *testing.T) {
	r := rand.New(rand.NewSource(9))
	for range 500 {
		d, x, y := triple(r, 100)
		a, b := result(t, integer.Mul, d, x), result(t, integer.Mul, d, y)
		gcd := result(t, integer.Gcd, a, b)
		if !divides(gcd, a) || !divides(gcd, b) || !divides(d, gcd) || integer.Compare(gcd, "0") < 0 {
			t.Errorf("Gcd(%s, %s) = %s", a, b, gcd)
		}
		same(t, "Gcd exchanged", result(t, integer.Gcd, b, a), gcd, a, b)
	}
}

// P3.6: around squares, and for the greatest integers.
func TestP3_6Roots(t *testing.T) {
	r := rand.New(rand.NewSource(10))
	l := []string{most, most[:199], power(199).String(), power(198).String()}
	for range 1500 {
		k := numberOf(randomInteger(r, 100))
		for d := int64(-1); d <= 1; d++ {
			near := new(big.Int).Add(new(big.Int).Mul(k, k), big.NewInt(d))
			if near.Sign() >= 0 {
				l = append(l, near.String())
			}
		}
	}
	for _, s := range l {
		root, err := integer.Root(s)
		if err != api.OK {
			t.Fatalf("Root(%s): error %d", s, err)
		}
		square := result(t, integer.Mul, root, root)
		next := result(t, integer.Add, root, "1")
		// The next square may have 201 digits; then it is greater than every integer.
		nextSquare, err := integer.Mul(next, next)
		if integer.Compare(root, "0") < 0 || integer.Compare(square, s) > 0 || err == api.OK && integer.Compare(nextSquare, s) <= 0 {
			t.Errorf("Root(%s) = %s", s, root)
		}
	}
}

// P3.7: each two integers in both orders, and what is beside them.
func TestP3_7Order(t *testing.T) {
	r := rand.New(rand.NewSource(11))
	for range 5000 {
		a, b, c := triple(r, 1+r.Intn(199))
		order := integer.Compare(a, b)
		if integer.Compare(b, a) != -order || (order == 0) != (a == b) || integer.Compare(a, a) != 0 {
			t.Errorf("Compare(%s, %s) = %d", a, b, order)
		}
		if sum, other := result(t, integer.Add, a, c), result(t, integer.Add, b, c); integer.Compare(sum, other) != order {
			t.Errorf("Compare(%s, %s) = %d, but not with %s added", a, b, order, c)
		}
		if integer.Compare(result(t, integer.Sub, a, b), "0") != order {
			t.Errorf("Compare(%s, %s) = %d, but the difference has another sign", a, b, order)
		}
		if order <= 0 && integer.Compare(b, c) <= 0 && integer.Compare(a, c) > 0 {
			t.Errorf("%s, %s and %s are not in order", a, b, c)
		}
	}
}

// P3.7: a list in ascending order, each with each.
func TestP3_7Ascending(t *testing.T) {
	l := []string{"-" + most, "-" + most[:199], "-100000000", "-99999999", "-10001", "-10000", "-9999", "-1000", "-10", "-9", "-2", "-1", "0", "1", "2", "9", "10", "11", "99", "100", "9999", "10000", "10001", "20000", "99999999", "100000000", "100010000", "100020000", most[:199], "1" + most[:199], most}
	for i, a := range l {
		for j, b := range l {
			want := 0
			if i < j {
				want = -1
			} else if i > j {
				want = 1
			}
			if got := integer.Compare(a, b); got != want {
				t.Errorf("Compare(%s, %s) = %d, want %d", a, b, got, want)
			}
		}
	}
}
