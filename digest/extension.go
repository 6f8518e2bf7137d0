package digest

import "dialtone/api"

// Extension returns a proof that l begins with its first m entries, or ErrArg if
// l has fewer.
func Extension(l []string, m int) ([]string, api.Errno) {
	switch {
	case m < 0 || m > len(l):
		return nil, api.ErrArg
	case m == 0 || m == len(l):
		return nil, api.OK
	}
	return part(l, m, true), api.OK
}

// part returns the proof that l begins with its first m entries, at least one;
// whole says that these are all the old entries, whose root needs no proof.
func part(l []string, m int, whole bool) []string {
	if m == len(l) {
		if whole {
			return nil
		}
		return []string{Root(l)}
	}
	k := firstHalf(len(l))
	if m <= k {
		return append(part(l[:k], m, whole), Root(l[k:]))
	}
	return append(part(l[k:], m-k, false), Root(l[:k]))
}

// VerifyExtension reports whether the proof shows that a list with n entries and
// the given root begins with m entries whose root is old.
func VerifyExtension(old string, m int, root string, n int, proof []string) bool {
	switch {
	case m < 0 || m > n || !areDigests(old, root) || !areDigests(proof...):
		return false
	case m == 0:
		return len(proof) == 0 && old == Root(nil)
	case m == n:
		return len(proof) == 0 && old == root
	}
	first, second, ok := twoValues(old, m, n, proof, true)
	return ok && first == old && second == root
}

// twoValues returns the roots of the first m, at least one, and of all of n
// entries, as the proof says them; false if it has too few or too many elements.
func twoValues(old string, m int, n int, proof []string, whole bool) (string, string, bool) {
	if m == n && whole {
		return old, old, len(proof) == 0
	}
	if len(proof) == 0 {
		return "", "", false
	}
	rest, x := cutLast(proof)
	if m == n {
		return x, x, len(rest) == 0
	}
	k := firstHalf(n)
	if m <= k {
		first, second, ok := twoValues(old, m, k, rest, whole)
		return first, Node(second, x), ok
	}
	first, second, ok := twoValues(old, m-k, n-k, rest, false)
	return Node(x, first), Node(x, second), ok
}
