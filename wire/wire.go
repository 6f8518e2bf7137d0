// Package wire is layer 1: it encodes integers and strings as bytes, decodes
// them, and computes checksums. See shared/doc/01-wire.md.
package wire

import "dialtone/api"

// maxGroups groups of 7 bits hold every encoded integer: 2 * MaxInt has 63 bits.
const maxGroups = 9

// PutInt returns the encoding of n, or ErrWire if n is not from -MaxInt to MaxInt.
func PutInt(n int) (string, api.Errno) {
	if n < -api.MaxInt || n > api.MaxInt {
		return "", api.ErrWire
	}
	return encode(n), api.OK
}

// Int decodes the integer whose encoding begins at offset at of s, and returns
// it and the offset of the byte after the encoding.
func Int(s string, at int) (int, int, api.Errno) {
	if at < 0 || at > len(s) {
		return 0, 0, api.ErrArg
	}
	z, next, ok := ungroup(s, at)
	if !ok || z > 2*api.MaxInt {
		return 0, 0, api.ErrWire
	}
	return unfold(z), next, api.OK
}

// PutString returns the encoding of s, or ErrWire if s has more than MaxString bytes.
func PutString(s string) (string, api.Errno) {
	if len(s) > api.MaxString {
		return "", api.ErrWire
	}
	return encode(len(s)) + s, api.OK
}

// String decodes the string whose encoding begins at offset at of s, and returns
// it and the offset of the byte after the encoding.
func String(s string, at int) (string, int, api.Errno) {
	length, begin, err := Int(s, at)
	if err != api.OK {
		return "", 0, err
	}
	if length < 0 || length > api.MaxString || length > len(s)-begin {
		return "", 0, api.ErrWire
	}
	end := begin + length
	// The bytes are copied, so that a short result does not keep a long s in memory.
	return string([]byte(s[begin:end])), end, api.OK
}

// encode returns the encoding of an integer from -MaxInt to MaxInt.
func encode(n int) string {
	var code []byte
	for group, last := range groups(fold(n)) {
		if !last {
			group |= 128
		}
		code = append(code, group)
	}
	return string(code)
}

// fold maps the integers from -MaxInt to MaxInt to 0 and above, so that those
// near zero are encoded in few bytes, whatever their sign.
func fold(n int) uint64 {
	if n < 0 {
		return 2*uint64(-n) - 1
	}
	return 2 * uint64(n)
}

// unfold returns the integer that fold maps to z.
func unfold(z uint64) int {
	half := int(z / 2)
	if z%2 == 1 {
		return -half - 1
	}
	return half
}

// groups ranges over the groups of 7 bits of z, the least significant one first,
// and says of each one whether it is the last one.
func groups(z uint64) func(yield func(group byte, last bool) bool) {
	return func(yield func(group byte, last bool) bool) {
		rest := z
		for rest > 127 {
			if !yield(byte(rest%128), false) {
				return
			}
			rest /= 128
		}
		yield(byte(rest), true)
	}
}

// ungroup puts together the groups that begin at offset at of s, and returns the
// result and the offset of the byte after the last one; false if s ends before
// the groups do, if there are too many, or if the last one is superfluous.
func ungroup(s string, at int) (uint64, int, bool) {
	var z uint64
	for i := 0; i < maxGroups && i < len(s)-at; i++ {
		b := s[at+i]
		z |= uint64(b%128) << (7 * i)
		if b < 128 {
			if b == 0 && i > 0 {
				return 0, 0, false
			}
			return z, at + i + 1, true
		}
	}
	return 0, 0, false
}
