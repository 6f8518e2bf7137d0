package rational_test

import (
	"math"
	"math/big"
	"math/rand"
	"regexp"
	"strconv"
	"strings"
	"testing"

	"dialtone/api"
	"dialtone/rational"
)

// most is the greatest integer.
var most = strings.Repeat("9", api.MaxDigits)

// canonical is what chapter 3 says of valid integers.
var canonical = regexp.MustCompile(`\A(0|-?[1-9][0-9]{0,199})\z`)

// ten is 10 to the power of n.
func ten(n int) string {
	return "1" + strings.Repeat("0", n)
}

// numberOf is the number of an integer; nil if it is not valid.
func numberOf(s string) *big.Int {
	if !canonical.MatchString(s) {
		return nil
	}
	n, _ := new(big.Int).SetString(s, 10)
	return n
}

// isValid is what the chapter says of valid fractions.
func isValid(r api.Ratio) bool {
	num, den := numberOf(r.Num), numberOf(r.Den)
	if num == nil || den == nil || den.Sign() <= 0 {
		return false
	}
	gcd := new(big.Int).GCD(nil, nil, new(big.Int).Abs(num), den)
	return gcd.String() == "1"
}

// valueOf is the value of a valid fraction.
func valueOf(r api.Ratio) *big.Rat {
	return new(big.Rat).SetFrac(numberOf(r.Num), numberOf(r.Den))
}

// ratioOf is the fraction with that value.
func ratioOf(x *big.Rat) api.Ratio {
	return api.Ratio{Num: x.Num().String(), Den: x.Denom().String()}
}

// ratio is the fraction that s says, such as "-3/2".
func ratio(s string) api.Ratio {
	x, ok := new(big.Rat).SetString(s)
	if !ok {
		panic("no fraction: " + s)
	}
	return ratioOf(x)
}

// small are all fractions whose integers are at most limit.
func small(limit int) []api.Ratio {
	var l []api.Ratio
	for num := -limit; num <= limit; num++ {
		for den := 1; den <= limit; den++ {
			r := api.Ratio{Num: strconv.Itoa(num), Den: strconv.Itoa(den)}
			if isValid(r) {
				l = append(l, r)
			}
		}
	}
	return l
}

// randomInteger is a number of at most that many digits.
func randomInteger(r *rand.Rand, digits int) *big.Int {
	limit := new(big.Int).Exp(big.NewInt(10), big.NewInt(int64(1+r.Intn(digits))), nil)
	n := new(big.Int).Rand(r, limit)
	if r.Intn(2) == 0 {
		n.Neg(n)
	}
	return n
}

// randomRatio is a fraction of integers of at most that many digits; often they
// have few digits, or many divisors.
func randomRatio(r *rand.Rand, digits int) api.Ratio {
	num, den := randomInteger(r, digits), randomInteger(r, digits)
	switch r.Intn(4) {
	case 0:
		num.SetInt64(int64(r.Intn(41) - 20))
		den.SetInt64(int64(1 + r.Intn(20)))
	case 1:
		den.MulRange(1, int64(1+r.Intn(14)))
	}
	if den.Sign() == 0 || len(den.String()) > digits {
		den.SetInt64(1)
	}
	return ratioOf(new(big.Rat).SetFrac(num, den))
}

// invalid are fractions that are not valid.
func invalid() []api.Ratio {
	return []api.Ratio{
		{}, {Num: "1"}, {Den: "1"}, {Num: "0"}, {Num: "0", Den: "0"}, {Num: "1", Den: "0"}, {Num: "-1", Den: "0"},
		{Num: "0", Den: "2"}, {Num: "0", Den: "-1"}, {Num: "1", Den: "-1"}, {Num: "1", Den: "-2"}, {Num: "-3", Den: "-2"},
		{Num: "2", Den: "4"}, {Num: "-2", Den: "2"}, {Num: "3", Den: "3"}, {Num: "15", Den: "35"}, {Num: most, Den: most}, {Num: most, Den: "9"},
		{Num: "x", Den: "1"}, {Num: "1", Den: "x"}, {Num: "+1", Den: "2"}, {Num: "1", Den: "+2"}, {Num: "01", Den: "2"}, {Num: "1", Den: "02"},
		{Num: "-0", Den: "1"}, {Num: "0", Den: "01"}, {Num: "1 ", Den: "2"}, {Num: "1", Den: " 2"}, {Num: "1/2", Den: "1"}, {Num: "1", Den: "1/2"},
		{Num: most + "9", Den: "1"}, {Num: "1", Den: ten(200)}, {Num: "-" + ten(200), Den: "3"}, {Num: strings.Repeat("7", 100000), Den: "3"},
	}
}

// checkRefused checks that a call had an error, and has returned a zero value.
func checkRefused(t *testing.T, got api.Ratio, err api.Errno, call string, of ...any) {
	t.Helper()
	if got != (api.Ratio{}) || err != api.ErrRational {
		t.Errorf("%s of %.200v = %v, error %d; want ErrRational", call, of, got, err)
	}
}

// checkReduced checks that a call has returned num and den, reduced, or a zero
// value and ErrRational if one of them is nil, or den is 0.
func checkReduced(t *testing.T, got api.Ratio, err api.Errno, num *big.Int, den *big.Int, call string, of ...any) {
	t.Helper()
	if num == nil || den == nil || den.Sign() == 0 {
		checkRefused(t, got, err, call, of...)
		return
	}
	if want := ratioOf(new(big.Rat).SetFrac(num, den)); got != want || err != api.OK {
		t.Errorf("%s of %v = %v, error %d; want %v", call, of, got, err, want)
	}
}

// P4.1: all pairs of strings, valid and invalid ones, as Num and Den.
func TestP4_1Valid(t *testing.T) {
	l := []string{"", "-", "-0", "+1", "01", "1 ", "x", "1/1", most, "-" + most, most + "9", ten(199), ten(200), ten(100), most[:199]}
	for n := -40; n <= 40; n++ {
		l = append(l, strconv.Itoa(n))
	}
	for _, num := range l {
		for _, den := range l {
			r := api.Ratio{Num: num, Den: den}
			if rational.Valid(r) != isValid(r) {
				t.Errorf("Valid(%v) = %v", r, rational.Valid(r))
			}
			got, err := rational.Make(num, den)
			checkReduced(t, got, err, numberOf(num), numberOf(den), "Make", num, den)
		}
	}
	for _, r := range invalid() {
		if rational.Valid(r) {
			t.Errorf("Valid(%v) is true", r)
		}
	}
}

func TestP4_1MakeLong(t *testing.T) {
	r := rand.New(rand.NewSource(1))
	for range 600 {
		factor := randomInteger(r, 100)
		num := new(big.Int).Mul(factor, randomInteger(r, 100))
		den := new(big.Int).Mul(factor, randomInteger(r, 100))
		got, err := rational.Make(num.String(), den.String())
		checkReduced(t, got, err, num, den, "Make", num, den)
	}
}

func TestP4_1Of(t *testing.T) {
	l := []int{math.MinInt, math.MinInt + 1, math.MinInt / 2, math.MaxInt, math.MaxInt - 1, 1 << 32, -1 << 31, 1000000007, 999999999999}
	for n := -30; n <= 30; n++ {
		l = append(l, n)
	}
	for _, num := range l {
		for _, den := range l {
			got, err := rational.Of(num, den)
			checkReduced(t, got, err, big.NewInt(int64(num)), big.NewInt(int64(den)), "Of", num, den)
		}
	}
}

// P4.1: each rounding, with what the chapter says of it.
func checkRounding(t *testing.T, r api.Ratio, places int) {
	t.Helper()
	down, errDown := rational.Down(r, places)
	up, errUp := rational.Up(r, places)
	if !isValid(r) || places < 0 || places > 30 {
		checkRefused(t, down, errDown, "Down", r, places)
		checkRefused(t, up, errUp, "Up", r, places)
		return
	}
	parts := numberOf(ten(places))
	product := fits(new(big.Int).Mul(numberOf(r.Num), parts))
	if product == nil {
		checkReduced(t, down, errDown, nil, parts, "Down", r, places)
		checkReduced(t, up, errUp, nil, parts, "Up", r, places)
		return
	}
	floor, rest := new(big.Int).DivMod(product, numberOf(r.Den), new(big.Int))
	ceiling := new(big.Int).Add(floor, big.NewInt(int64(rest.Sign())))
	checkReduced(t, down, errDown, floor, parts, "Down", r, places)
	checkReduced(t, up, errUp, ceiling, parts, "Up", r, places)
}

func TestP4_1Rounding(t *testing.T) {
	places := []int{math.MinInt, -1, 0, 1, 2, 3, 7, 8, 29, 30, 31, 32, 100, math.MaxInt}
	l := append(small(9), invalid()...)
	for _, s := range []string{most, "-" + most, most + "/7", "-" + most + "/2", "1/" + most, "-1/" + most, most[1:] + "8/" + most, "999999999/1000000000", "-1/1024", "1/1000000000000000000000000000000"} {
		l = append(l, ratio(s))
	}
	for _, r := range l {
		for _, n := range places {
			checkRounding(t, r, n)
		}
	}
	random := rand.New(rand.NewSource(2))
	for range 600 {
		checkRounding(t, randomRatio(random, 1+random.Intn(200)), random.Intn(31))
	}
}

// P4.1: Num has just as many digits as leave a product of 200 digits, or one more.
func TestP4_1RoundingTooLarge(t *testing.T) {
	for places := range 31 {
		for _, num := range []string{most[places:], "-" + most[places:], ten(199 - places), ten(200 - places), "-" + ten(200-places)} {
			for _, den := range []string{"1", "7", most[:97] + "7"} {
				if r := (api.Ratio{Num: num, Den: den}); isValid(r) {
					checkRounding(t, r, places)
				}
			}
		}
	}
}

// textOf is what the chapter says of Print.
func textOf(r api.Ratio) string {
	switch {
	case !isValid(r):
		return ""
	case r.Den == "1":
		return r.Num
	}
	return r.Num + "/" + r.Den
}

func TestP4_1Print(t *testing.T) {
	r := rand.New(rand.NewSource(3))
	l := append(small(12), invalid()...)
	for range 200 {
		l = append(l, randomRatio(r, 200))
	}
	for _, r := range l {
		if got := rational.Print(r); got != textOf(r) {
			t.Errorf("Print(%v) = %q", r, got)
		}
	}
}

// P4.1: all strings of few bytes, and some that are nearly fractions.
func TestP4_1Parse(t *testing.T) {
	check := func(s string) {
		num, den, found := strings.Cut(s, "/")
		if !found {
			den = "1"
		}
		want := api.Ratio{Num: num, Den: den}
		got, err := rational.Parse(s)
		if isValid(want) && textOf(want) == s {
			if got != want || err != api.OK {
				t.Errorf("Parse(%q) = %v, error %d", s, got, err)
			}
			return
		}
		checkRefused(t, got, err, "Parse", s)
	}
	var try func(s string, left int)
	try = func(s string, left int) {
		check(s)
		if left == 0 {
			return
		}
		for _, b := range []byte("-/01236+ x") {
			try(s+string([]byte{b}), left-1)
		}
	}
	try("", 5)
	for _, s := range []string{most, "-" + most, "1/" + most, "-" + most + "/" + ten(199), most + "/" + most, most + "9", "1/" + ten(200), ten(200) + "/3", most + "/1", "0/" + most, "1//2", "1/2/", "/1/2", "1/2\n", "\x001/2", "1/\xff", "1÷2", "0.5", "1/2.0", strings.Repeat("1", 100000), "1/" + strings.Repeat("1", 100000), strings.Repeat("/", 1000)} {
		check(s)
	}
}
