package rational_test

import (
	"math/rand"
	"testing"

	"dialtone/api"
	"dialtone/integer"
	"dialtone/rational"
)

// result is the result of an operation that is not to fail.
func result(t *testing.T, call func(a api.Ratio, b api.Ratio) (api.Ratio, api.Errno), a api.Ratio, b api.Ratio) api.Ratio {
	t.Helper()
	r, err := call(a, b)
	if err != api.OK {
		t.Fatalf("%v, %v: error %d", a, b, err)
	}
	return r
}

// same checks that both ways to a value lead to the same fraction.
func same(t *testing.T, law string, got api.Ratio, want api.Ratio, of ...api.Ratio) {
	t.Helper()
	if got != want {
		t.Errorf("%s of %v: %v and %v", law, of, got, want)
	}
}

// triples are small fractions, each with each, and long ones of at most that
// many digits.
func triples(digits int, count int) [][3]api.Ratio {
	var l [][3]api.Ratio
	few := small(3)
	for _, a := range few {
		for _, b := range few {
			for _, c := range few {
				l = append(l, [3]api.Ratio{a, b, c})
			}
		}
	}
	r := rand.New(rand.NewSource(6))
	for range count {
		l = append(l, [3]api.Ratio{randomRatio(r, digits), randomRatio(r, digits), randomRatio(r, digits)})
	}
	return l
}

// minus is 0 less r.
func minus(t *testing.T, r api.Ratio) api.Ratio {
	t.Helper()
	return result(t, rational.Sub, api.Ratio{Num: "0", Den: "1"}, r)
}

// P4.2: whatever leads to a result, it is a valid fraction.
func TestP4_2Valid(t *testing.T) {
	for _, l := range triples(98, 100) {
		a, b := l[0], l[1]
		for _, o := range operations() {
			if o.name == "Div" && b.Num == "0" {
				continue
			}
			if r := result(t, o.call, a, b); !rational.Valid(r) || !isValid(r) {
				t.Errorf("%s(%v, %v) = %v, which is not valid", o.name, a, b, r)
			}
		}
		for _, round := range []func(api.Ratio, int) (api.Ratio, api.Errno){rational.Down, rational.Up} {
			for _, places := range []int{0, 1, 30} {
				if r, err := round(a, places); err != api.OK || !rational.Valid(r) || !isValid(r) {
					t.Errorf("%v is rounded to %v, error %d", a, r, err)
				}
			}
		}
	}
}

// P4.2: fractions with the same value, made from other integers, are equal.
func TestP4_2SameValue(t *testing.T) {
	for _, r := range append(small(8), ratio(ten(120)), ratio("-7/"+most[:120])) {
		for _, factor := range []string{"1", "-1", "2", "-6", "1000000", "99999999999999999999", "-" + ten(70)} {
			num, _ := integer.Mul(r.Num, factor)
			den, _ := integer.Mul(r.Den, factor)
			made, err := rational.Make(num, den)
			if made != r || err != api.OK {
				t.Errorf("Make(%s, %s) = %v, error %d; want %v", num, den, made, err, r)
			}
			if other := (api.Ratio{Num: num, Den: den}); rational.Valid(other) != (factor == "1") {
				t.Errorf("Valid(%v) = %v, with the value of %v", other, factor != "1", r)
			}
		}
	}
}

// P4.2: the same value, the same fraction and the same text mean the same.
func TestP4_2Texts(t *testing.T) {
	l := small(9)
	for _, a := range l {
		for _, b := range l {
			sameValue := valueOf(a).Cmp(valueOf(b)) == 0
			if sameValue != (a == b) || sameValue != (rational.Print(a) == rational.Print(b)) || sameValue != (rational.Compare(a, b) == 0) {
				t.Errorf("%v and %v: %q, %q, Compare %d", a, b, rational.Print(a), rational.Print(b), rational.Compare(a, b))
			}
		}
	}
}

func TestP4_3Addition(t *testing.T) {
	zero := ratio("0")
	for _, l := range triples(49, 100) {
		a, b, c := l[0], l[1], l[2]
		ab, bc := result(t, rational.Add, a, b), result(t, rational.Add, b, c)
		same(t, "commutative sum", ab, result(t, rational.Add, b, a), a, b)
		same(t, "associative sum", result(t, rational.Add, ab, c), result(t, rational.Add, a, bc), a, b, c)
		same(t, "sum with 0", result(t, rational.Add, a, zero), a, a)
		same(t, "sum with the opposite", result(t, rational.Add, a, minus(t, a)), zero, a)
		same(t, "Sub undoes Add", result(t, rational.Sub, ab, b), a, a, b)
		same(t, "Add undoes Sub", result(t, rational.Add, result(t, rational.Sub, a, b), b), a, a, b)
	}
}

func TestP4_3Multiplication(t *testing.T) {
	one := ratio("1")
	for _, l := range triples(49, 100) {
		a, b, c := l[0], l[1], l[2]
		ab, bc := result(t, rational.Mul, a, b), result(t, rational.Mul, b, c)
		same(t, "commutative product", ab, result(t, rational.Mul, b, a), a, b)
		same(t, "associative product", result(t, rational.Mul, ab, c), result(t, rational.Mul, a, bc), a, b, c)
		same(t, "product with 1", result(t, rational.Mul, a, one), a, a)
		if b.Num != "0" {
			same(t, "Div undoes Mul", result(t, rational.Div, ab, b), a, a, b)
			same(t, "Mul undoes Div", result(t, rational.Mul, result(t, rational.Div, a, b), b), a, a, b)
			same(t, "product with the reciprocal", result(t, rational.Mul, b, result(t, rational.Div, one, b)), one, b)
		}
	}
}

func TestP4_3Distribution(t *testing.T) {
	for _, l := range triples(32, 100) {
		a, b, c := l[0], l[1], l[2]
		ab, ac := result(t, rational.Mul, a, b), result(t, rational.Mul, a, c)
		same(t, "distributive sum", result(t, rational.Mul, a, result(t, rational.Add, b, c)), result(t, rational.Add, ab, ac), a, b, c)
		same(t, "distributive difference", result(t, rational.Mul, a, result(t, rational.Sub, b, c)), result(t, rational.Sub, ab, ac), a, b, c)
	}
}

// P4.4: each two fractions in both orders, what is between them, and the sign of
// the difference.
func TestP4_4Order(t *testing.T) {
	for _, l := range triples(98, 100) {
		a, b, c := l[0], l[1], l[2]
		order := rational.Compare(a, b)
		if rational.Compare(b, a) != -order || (order == 0) != (a == b) || rational.Compare(a, a) != 0 {
			t.Errorf("Compare(%v, %v) = %d", a, b, order)
		}
		if sign := integer.Compare(result(t, rational.Sub, a, b).Num, "0"); sign != order {
			t.Errorf("Compare(%v, %v) = %d, but the sign of the difference is %d", a, b, order, sign)
		}
		if order <= 0 && rational.Compare(b, c) <= 0 && rational.Compare(a, c) > 0 {
			t.Errorf("%v, %v and %v are not in order", a, b, c)
		}
	}
}

// P4.4: what is added to both, or multiplies both, does not change the order,
// or turns it if it is a negative factor.
func TestP4_4OrderKept(t *testing.T) {
	for _, l := range triples(98, 100) {
		a, b, c := l[0], l[1], l[2]
		order := rational.Compare(a, b)
		if rational.Compare(result(t, rational.Add, a, c), result(t, rational.Add, b, c)) != order {
			t.Errorf("Compare(%v, %v) = %d, but not with %v added", a, b, order, c)
		}
		sign := integer.Compare(c.Num, "0")
		if rational.Compare(result(t, rational.Mul, a, c), result(t, rational.Mul, b, c)) != order*sign {
			t.Errorf("Compare(%v, %v) = %d, but not so times %v", a, b, order, c)
		}
	}
}

// P4.4: a list in ascending order, each with each, some of whose differences are
// too large.
func TestP4_4Ascending(t *testing.T) {
	var l []api.Ratio
	for _, s := range []string{"-" + most, "-" + most + "/2", "-2", "-3/2", "-" + most[1:] + "8/" + most[1:] + "7", "-1", "-" + most[1:] + "8/" + most, "-1/2", "-1/3", "-1/" + most[1:], "-1/" + most, "0", "1/" + most, "1/" + most[1:], "33333/100000", "1/3", "333334/1000000", "1/2", most[1:] + "8/" + most, "1", most[1:] + "8/" + most[1:] + "7", "4/3", "3/2", "2", most + "/2", most} {
		l = append(l, ratio(s))
	}
	for i, a := range l {
		for k, b := range l {
			want := 0
			if i < k {
				want = -1
			} else if i > k {
				want = 1
			}
			if got := rational.Compare(a, b); got != want {
				t.Errorf("Compare(%v, %v) = %d, want %d", a, b, got, want)
			}
		}
	}
}

// rounded are both roundings, which are not to fail.
func rounded(t *testing.T, r api.Ratio, places int) (api.Ratio, api.Ratio) {
	t.Helper()
	down, errDown := rational.Down(r, places)
	up, errUp := rational.Up(r, places)
	if errDown != api.OK || errUp != api.OK {
		t.Fatalf("%v, %d: errors %d, %d", r, places, errDown, errUp)
	}
	return down, up
}

// checkRounded checks P4.5 for one fraction.
func checkRounded(t *testing.T, r api.Ratio, places int) {
	t.Helper()
	down, up := rounded(t, r, places)
	parts := api.Ratio{Num: ten(places), Den: "1"}
	for _, x := range []api.Ratio{down, up} {
		if result(t, rational.Mul, x, parts).Den != "1" {
			t.Errorf("%v to %d places is %v", r, places, x)
		}
		again, stillAgain := rounded(t, x, places)
		same(t, "rounding again", again, x, r)
		same(t, "rounding again", stillAgain, x, r)
	}
	if rational.Compare(down, r) > 0 || rational.Compare(up, r) < 0 {
		t.Errorf("%v to %d places is from %v to %v", r, places, down, up)
	}
	gap := result(t, rational.Sub, up, down)
	if isMultiple := result(t, rational.Mul, r, parts).Den == "1"; isMultiple {
		same(t, "rounding a multiple", down, r, up)
		same(t, "rounding a multiple", up, r, down)
	} else {
		same(t, "rounding", gap, api.Ratio{Num: "1", Den: ten(places)}, r)
	}
	opposite, _ := rounded(t, minus(t, r), places)
	same(t, "rounding the opposite", minus(t, up), opposite, r)
}

func TestP4_5Rounding(t *testing.T) {
	l := append(small(16), ratio("99/100"), ratio("-999999/1000000"), ratio("1/"+ten(30)), ratio("-1/"+ten(31)), ratio("7/1"+ten(29)), ratio(most[:130]+"/7"))
	r := rand.New(rand.NewSource(7))
	for range 60 {
		l = append(l, randomRatio(r, 90))
	}
	for _, x := range l {
		for _, places := range []int{0, 1, 2, 3, 17, 30} {
			checkRounded(t, x, places)
		}
	}
}

// P4.6: what is printed is parsed, and nothing else is parsed to the same.
func TestP4_6Printed(t *testing.T) {
	r := rand.New(rand.NewSource(8))
	l := append(small(12), ratio(most), ratio("-"+most), ratio("1/"+most), ratio("-"+most+"/"+ten(199)))
	for range 100 {
		l = append(l, randomRatio(r, 200))
	}
	for _, x := range l {
		text := rational.Print(x)
		got, err := rational.Parse(text)
		if got != x || err != api.OK {
			t.Errorf("Parse(%q) = %v, error %d", text, got, err)
		}
		for _, other := range []string{"+" + text, "0" + text, " " + text, text + " ", text + "/1", text + "/", text + "0/10", "-" + x.Num + "/-" + x.Den, x.Num + "0/" + x.Den + "0"} {
			if got, err := rational.Parse(other); err == api.OK && got == x {
				t.Errorf("Parse(%q) = %v, as %q is", other, got, text)
			}
		}
	}
}

// P4.6: what is parsed is printed.
func TestP4_6Parsed(t *testing.T) {
	for num := -30; num <= 30; num++ {
		for den := -30; den <= 30; den++ {
			text := integer.FromInt(num) + "/" + integer.FromInt(den)
			r, err := rational.Parse(text)
			if err == api.OK && rational.Print(r) != text {
				t.Errorf("Parse(%q) = %v, which is printed as %q", text, r, rational.Print(r))
			}
		}
	}
	for _, r := range invalid() {
		text := rational.Print(r)
		if got, err := rational.Parse(text); text != "" || got != (api.Ratio{}) || err != api.ErrRational {
			t.Errorf("Print(%.200v) = %q, which is parsed as %v, error %d", r, text, got, err)
		}
	}
}
