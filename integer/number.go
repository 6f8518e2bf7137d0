package integer

import "strings"

// number is an integer: its absolute value, and whether it is below 0.
type number struct {
	negative bool
	size     natural
}

// parse returns the number of a valid integer; false if s is not valid.
func parse(s string) (number, bool) {
	if !Valid(s) {
		return number{}, false
	}
	digits, negative := strings.CutPrefix(s, "-")
	return number{negative, readNatural(digits)}, true
}

// parseBoth returns the numbers of two valid integers; false if one is not valid.
func parseBoth(a string, b string) (number, number, bool) {
	x, okX := parse(a)
	y, okY := parse(b)
	return x, y, okX && okY
}

// text returns the integer of the number, however many digits it has.
func (a number) text() string {
	if a.negative {
		return "-" + a.size.text()
	}
	return a.size.text()
}

// isZero reports whether the number is 0.
func (a number) isZero() bool {
	return len(a.size) == 0
}

// signed returns the number with that absolute value; 0 has no sign.
func signed(negative bool, size natural) number {
	return number{negative && len(size) > 0, size}
}

// opposite returns 0 less the number.
func (a number) opposite() number {
	return signed(!a.negative, a.size)
}

// compare returns -1, 0 or 1, as a is less than, equal to or greater than b.
func (a number) compare(b number) int {
	switch {
	case a.negative && b.negative:
		return b.size.compare(a.size)
	case a.negative:
		return -1
	case b.negative:
		return 1
	}
	return a.size.compare(b.size)
}

// plus returns a + b.
func (a number) plus(b number) number {
	if a.negative == b.negative {
		return number{a.negative, a.size.plus(b.size)}
	}
	if a.size.compare(b.size) < 0 {
		a, b = b, a
	}
	return signed(a.negative, a.size.minus(b.size))
}

// minus returns a - b.
func (a number) minus(b number) number {
	return a.plus(b.opposite())
}

// times returns a * b.
func (a number) times(b number) number {
	return signed(a.negative != b.negative, a.size.times(b.size))
}

// divide returns the quotient and the remainder of a by b, which is not 0; the
// remainder is not negative, whatever the signs are.
func (a number) divide(b number) (number, number) {
	quotient, rest := a.size.divide(b.size)
	if a.negative && len(rest) > 0 {
		quotient, rest = quotient.plus(natural{1}), b.size.minus(rest)
	}
	return signed(a.negative != b.negative, quotient), number{size: rest}
}

// gcd returns the greatest common divisor of a and b, or 0 if both are 0.
func (a number) gcd(b number) number {
	x, y := a.size, b.size
	for len(y) > 0 {
		_, rest := x.divide(y)
		x, y = y, rest
	}
	return number{size: x}
}
