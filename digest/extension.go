package digest

import "onair/api"

// Extension returns a proof that l begins with its first m entries.
func Extension(l []string, m int) ([]string, api.Errno) {
	if m < 0 || m > len(l) {
		return nil, api.ErrArg
	}
	if m == 0 {
		return nil, api.OK
	}
	return part(l, m, true), api.OK
}

// VerifyExtension reports whether the proof shows that a list with n entries and the given root begins with m entries whose root is old.
func VerifyExtension(old string, m int, root string, n int, proof []string) bool {
	if m < 0 || m > n || len(old) != api.DigestSize || len(root) != api.DigestSize || !areDigests(proof) {
		return false
	}
	switch m {
	case 0:
		return len(proof) == 0 && old == Root(nil)
	case n:
		return len(proof) == 0 && old == root
	}
	first, second, ok := joined(old, m, n, true, proof)
	return ok && first == old && second == root
}

// part returns the roots from which that of the first m entries of l and that of l can be computed; whole says that l is the beginning of the list, so that the root of its first m entries is already known.
func part(l []string, m int, whole bool) []string {
	if m == len(l) {
		if whole {
			return nil
		}
		return []string{Root(l)}
	}
	k := split(len(l))
	if m <= k {
		return append(part(l[:k], m, whole), Root(l[k:]))
	}
	return append(part(l[k:], m-k, false), Root(l[:k]))
}

// joined returns the two values of m, n, the proof and whole, or false if the proof does not have as many elements as it must have. m is from 1 to n.
func joined(old string, m, n int, whole bool, proof []string) (string, string, bool) {
	if m == n && whole {
		return old, old, len(proof) == 0
	}
	rest, x, ok := parted(proof)
	if !ok {
		return "", "", false
	}
	if m == n {
		return x, x, len(rest) == 0
	}
	k := split(n)
	if m <= k {
		first, second, ok := joined(old, m, k, whole, rest)
		return first, Node(second, x), ok
	}
	first, second, ok := joined(old, m-k, n-k, false, rest)
	return Node(x, first), Node(x, second), ok
}
