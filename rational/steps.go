package rational

import (
	"dialtone/api"
	"dialtone/integer"
)

// operation is a function of two integers, of which it makes another one.
type operation func(a string, b string) (string, api.Errno)

// step makes from the numerator and the denominator that the step before it has
// left those for the next step. Between steps they need not be reduced.
type step func(r api.Ratio) (api.Ratio, api.Errno)

// build takes r through the steps and reduces the result. After an error it
// skips all further steps, and returns ErrRational.
func build(r api.Ratio, steps ...step) (api.Ratio, api.Errno) {
	result, err := follow(r, steps...)
	if err == api.OK {
		result, err = follow(result, positive, lowest)
	}
	if err != api.OK {
		return api.Ratio{}, api.ErrRational
	}
	return result, api.OK
}

// follow takes r through the steps, up to the first one that has an error.
func follow(r api.Ratio, steps ...step) (api.Ratio, api.Errno) {
	err := api.OK
	for _, next := range steps {
		if err == api.OK {
			r, err = next(r)
		}
	}
	return r, err
}

// accept is the step that changes nothing, and has an error if one of the
// arguments of a calculation is not valid.
func accept(arguments ...api.Ratio) step {
	return func(r api.Ratio) (api.Ratio, api.Errno) {
		for _, argument := range arguments {
			if !Valid(argument) {
				return r, api.ErrRational
			}
		}
		return r, api.OK
	}
}

// scale is the step that multiplies the numerator by num, the denominator by den.
func scale(num string, den string) step {
	return func(r api.Ratio) (api.Ratio, api.Errno) {
		return follow(r, numerator(integer.Mul, num), denominator(integer.Mul, den))
	}
}

// include is the step that applies an operation to the numerator and to the
// product of x and y.
func include(apply operation, x string, y string) step {
	return func(r api.Ratio) (api.Ratio, api.Errno) {
		product, err := integer.Mul(x, y)
		if err != api.OK {
			return r, err
		}
		return numerator(apply, product)(r)
	}
}

// cut is the step that leaves the whole number of the fraction over parts; it is
// greater by more if the fraction is no whole number.
func cut(parts string, more string) step {
	return func(r api.Ratio) (api.Ratio, api.Errno) {
		whole, rest, err := integer.Div(r.Num, r.Den)
		if err == api.OK && rest != "0" {
			whole, err = integer.Add(whole, more)
		}
		return api.Ratio{Num: whole, Den: parts}, err
	}
}

// numerator is the step that applies an operation to the numerator and to b.
func numerator(apply operation, b string) step {
	return func(r api.Ratio) (api.Ratio, api.Errno) {
		num, err := apply(r.Num, b)
		return api.Ratio{Num: num, Den: r.Den}, err
	}
}

// denominator is the step that applies an operation to the denominator and to b.
func denominator(apply operation, b string) step {
	return func(r api.Ratio) (api.Ratio, api.Errno) {
		den, err := apply(r.Den, b)
		return api.Ratio{Num: r.Num, Den: den}, err
	}
}

// positive is the step that makes the denominator positive; it has an error if
// that is 0.
func positive(r api.Ratio) (api.Ratio, api.Errno) {
	switch integer.Compare(r.Den, "0") {
	case 1:
		return r, api.OK
	case -1:
		return scale("-1", "-1")(r)
	}
	return r, api.ErrRational
}

// lowest is the step that divides a numerator and a positive denominator by
// their greatest common divisor.
func lowest(r api.Ratio) (api.Ratio, api.Errno) {
	gcd, err := integer.Gcd(r.Num, r.Den)
	if err != api.OK {
		return r, err
	}
	by := func(a string, b string) (string, api.Errno) {
		quotient, _, err := integer.Div(a, b)
		return quotient, err
	}
	return follow(r, numerator(by, gcd), denominator(by, gcd))
}
