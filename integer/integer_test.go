package integer_test

import (
	"math"
	"math/big"
	"math/rand"
	"regexp"
	"strconv"
	"strings"
	"testing"

	"dialtone/api"
	"dialtone/integer"
)

// most is the greatest integer.
var most = strings.Repeat("9", api.MaxDigits)

// canonical is what the chapter says of valid integers.
var canonical = regexp.MustCompile(`\A(0|-?[1-9][0-9]{0,199})\z`)

// numberOf is the number of an integer.
func numberOf(s string) *big.Int {
	n, ok := new(big.Int).SetString(s, 10)
	if !ok {
		panic("no integer: " + s)
	}
	return n
}

// power is 10 to the power of n.
func power(n int) *big.Int {
	return new(big.Int).Exp(big.NewInt(10), big.NewInt(int64(n)), nil)
}

// randomInteger is an integer of at most that many digits, often with long runs of 0 or 9.
func randomInteger(r *rand.Rand, digits int) string {
	n := new(big.Int).Rand(r, power(1+r.Intn(digits)))
	if r.Intn(3) == 0 {
		part := power(r.Intn(digits))
		n.Sub(n, new(big.Int).Mod(n, part))
		n.Sub(n, big.NewInt(int64(r.Intn(3))))
		n.Abs(n)
	}
	if r.Intn(2) == 0 {
		n.Neg(n)
	}
	return n.String()
}

// edges are integers around those where the number of digits, of groups or of
// machine words changes, and the greatest ones.
func edges() []string {
	l := []string{"0", most, "-" + most}
	add := func(n *big.Int) {
		for d := int64(-1); d <= 1; d++ {
			near := new(big.Int).Add(n, big.NewInt(d))
			l = append(l, near.String(), near.Neg(near).String())
		}
	}
	for _, n := range []int{0, 1, 3, 4, 5, 8, 12, 99, 100, 101, 196, 199} {
		add(power(n))
	}
	for _, n := range []uint{13, 31, 32, 62, 63, 64, 128} {
		add(new(big.Int).Lsh(big.NewInt(1), n))
	}
	return l
}

// invalid are strings that are no valid integers.
func invalid() []string {
	return []string{
		"", "-", "-0", "00", "01", "-01", "-00", "007", "+1", "+0", " 1", "1 ", "1\n", "\n1", "1\x00", "\x00",
		"1e5", "0x1", "1_000", "1,000", "1.0", "1/2", "--1", "1-", "-1-", "- 1", "/", ":", "1/", "1:", "a", "-a",
		"٣", "１", "−1", "\xff", "\xb1", "12345678901234567890x", "x" + most,
		"1" + strings.Repeat("0", 200), most + "9", "-" + most + "9", "0" + most[1:], strings.Repeat("0", 200), strings.Repeat("1", 100000),
	}
}

// P3.1: all strings of few bytes, and those of the greatest lengths.
func TestP3_1Valid(t *testing.T) {
	var try func(s string, left int)
	try = func(s string, left int) {
		if integer.Valid(s) != canonical.MatchString(s) {
			t.Errorf("Valid(%q) = %v", s, integer.Valid(s))
		}
		if left == 0 {
			return
		}
		for _, b := range []byte("-0189+/: a\n\x00\xff") {
			try(s+string([]byte{b}), left-1)
		}
	}
	try("", 4)
	for _, n := range []int{199, 200, 201, 202, 1000} {
		for _, first := range []string{"", "-", "+", "--"} {
			for _, digit := range []string{"9", "0", "1"} {
				try(first+strings.Repeat(digit, n), 1)
			}
		}
	}
	for i := range 256 {
		try("1"+string([]byte{byte(i)})+"1", 0)
		try(string([]byte{byte(i)}), 0)
	}
}

func TestP3_1ValidSamples(t *testing.T) {
	for _, s := range edges() {
		if len(strings.TrimPrefix(s, "-")) <= api.MaxDigits && !integer.Valid(s) {
			t.Errorf("Valid(%q) is false", s)
		}
	}
	for _, s := range invalid() {
		if integer.Valid(s) {
			t.Errorf("Valid(%.40q) is true", s)
		}
	}
}

// ints are small ints, and those around powers of 2 and of 10.
func ints() []int {
	l := []int{math.MinInt, math.MinInt + 1, math.MaxInt, math.MaxInt - 1}
	for n := -12000; n <= 12000; n++ {
		l = append(l, n)
	}
	ten := 1
	for range 18 {
		ten *= 10
		l = append(l, ten-1, ten, ten+1, -ten+1, -ten, -ten-1)
	}
	for shift := range 63 {
		l = append(l, 1<<shift-1, 1<<shift, -1<<shift, -1<<shift-1)
	}
	return l
}

func TestP3_1Ints(t *testing.T) {
	for _, n := range ints() {
		want := big.NewInt(int64(n)).String()
		if got := integer.FromInt(n); got != want {
			t.Errorf("FromInt(%d) = %q", n, got)
		}
		if got, err := integer.ToInt(want); got != n || err != api.OK {
			t.Errorf("ToInt(%q) = %d, error %d", want, got, err)
		}
	}
}

func TestP3_1NoInts(t *testing.T) {
	l := append(invalid(), "9223372036854775808", "-9223372036854775809", "18446744073709551616", "-18446744073709551616", "18446744073709551617", "9223372036854775810", "10000000000000000000", "-10000000000000000000", most, "-"+most)
	for _, s := range l {
		if n, err := integer.ToInt(s); n != 0 || err != api.ErrInteger {
			t.Errorf("ToInt(%.40q) = %d, error %d; want ErrInteger", s, n, err)
		}
	}
}

// P3.2: no other way of writing a number is valid.
func TestP3_2OneInteger(t *testing.T) {
	for _, n := range ints() {
		s := integer.FromInt(n)
		digits := strings.TrimPrefix(s, "-")
		for _, other := range []string{"0" + digits, "-0" + digits, "+" + digits, "+" + s, "--" + digits, s + ".", " " + s, s + " ", s + ".0", "0000" + digits, strconv.Quote(s)} {
			if integer.Valid(other) {
				t.Errorf("%q is valid, as %q is", other, s)
			}
		}
		if opposite := "-" + digits; integer.Valid(opposite) != (n != 0) {
			t.Errorf("Valid(%q) = %v", opposite, n == 0)
		}
	}
}
