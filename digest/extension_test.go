package digest_test

import (
	"math"
	"math/bits"
	"math/rand"
	"slices"
	"testing"

	"onair/api"
	"onair/digest"
)

// plainPart returns part(l, m, whole), as the chapter defines it.
func plainPart(l []string, m int, whole bool) []string {
	n := len(l)
	if n == m && whole {
		return nil
	}
	if n == m {
		return []string{plainRoot(l)}
	}
	k := plainSplit(n)
	if m <= k {
		return append(plainPart(l[:k], m, whole), plainRoot(l[k:]))
	}
	return append(plainPart(l[k:], m-k, false), plainRoot(l[:k]))
}

// plainExtension returns the proof that l begins with its first m entries.
func plainExtension(l []string, m int) []string {
	if m == 0 || m == len(l) {
		return nil
	}
	return plainPart(l, m, true)
}

// rootsOf computes the two values of m, n and a proof for m from 1 to n - 1, from its first element on, without recursion (as RFC 9162 does), and reports whether the proof has as many elements as it must have.
func rootsOf(old string, m, n int, proof []string) (string, string, bool) {
	if m&(m-1) == 0 { // the first m entries are a subtree, and need not be told
		proof = append([]string{old}, proof...)
	}
	if len(proof) == 0 {
		return "", "", false
	}
	i, last := m-1, n-1
	for i%2 == 1 {
		i, last = i/2, last/2
	}
	a, b := proof[0], proof[0]
	for _, x := range proof[1:] {
		if last == 0 {
			return "", "", false
		}
		if i%2 == 1 || i == last {
			a, b = digest.Node(x, a), digest.Node(x, b)
			for i%2 == 0 && i != 0 {
				i, last = i/2, last/2
			}
		} else {
			b = digest.Node(b, x)
		}
		i, last = i/2, last/2
	}
	return a, b, last == 0
}

// P2.1, P2.2: proofs for all beginnings of all lists up to some length: their elements, how many there are, and that VerifyExtension accepts them, only for their beginnings.
func TestExtensions(t *testing.T) {
	for n := 0; n <= longest; n++ {
		l := entries(n)
		root := digest.Root(l)
		for m := 0; m <= n; m++ {
			p, err := digest.Extension(l, m)
			if !slices.Equal(p, plainExtension(l, m)) || err != api.OK || len(p) > 2*bits.Len(uint(n)) {
				t.Errorf("first %d of %d: %x, %d", m, n, p, err)
			}
			old := digest.Root(l[:m])
			for k := -1; k <= n+1; k++ {
				if digest.VerifyExtension(old, k, root, n, p) != (k == m) {
					t.Errorf("first %d of %d, for %d", m, n, k)
				}
				if 0 <= k && k <= n && digest.VerifyExtension(digest.Root(l[:k]), m, root, n, p) != (k == m) {
					t.Errorf("first %d of %d, for the root of %d", m, n, k)
				}
			}
		}
	}
}

// P2.1, P2.4: VerifyExtension refuses what differs from a proof, and other roots.
func TestChangedExtensions(t *testing.T) {
	for n := 0; n <= 17; n++ {
		l := entries(n)
		root := digest.Root(l)
		for m := 0; m <= n; m++ {
			old := digest.Root(l[:m])
			p, _ := digest.Extension(l, m)
			for _, other := range changed(p) {
				if digest.VerifyExtension(old, m, root, n, other) {
					t.Errorf("first %d of %d, changed to %x", m, n, other)
				}
			}
			for _, r := range []string{"", old + "x", old[:31], digest.Sum(old), digest.Root(append(slices.Clone(l[:m]), "x"))} {
				if digest.VerifyExtension(r, m, root, n, p) {
					t.Errorf("first %d of %d, for the beginning's root %x", m, n, r)
				}
			}
			for _, r := range []string{"", root + "x", root[:31], digest.Sum(root), digest.Root(append(slices.Clone(l), "x"))} {
				// Every list begins with no entries, whatever its root.
				if digest.VerifyExtension(old, m, r, n, p) != (m == 0 && len(r) == api.DigestSize) {
					t.Errorf("first %d of %d, for the root %x", m, n, r)
				}
			}
		}
	}
}

// P2.1: Extension returns ErrArg, and nothing else, for what is no number of first entries.
func TestNoExtension(t *testing.T) {
	for n := range 6 {
		for _, m := range []int{-1, n + 1, n + 2, math.MinInt, math.MaxInt} {
			if p, err := digest.Extension(entries(n), m); len(p) != 0 || err != api.ErrArg {
				t.Errorf("first %d of %d: %x, %d; want ErrArg", m, n, p, err)
			}
		}
	}
}

// P2.1: beginnings of no entries, for all numbers of entries and all digests.
func TestNoEntries(t *testing.T) {
	none, x := digest.Root(nil), digest.Sum("x")
	for _, n := range []int{0, 1, 2, 7, math.MaxInt} {
		for _, root := range []string{none, x} {
			if !digest.VerifyExtension(none, 0, root, n, nil) || !digest.VerifyExtension(none, 0, root, n, []string{}) {
				t.Errorf("refused for %d entries", n)
			}
			if digest.VerifyExtension(x, 0, root, n, nil) || digest.VerifyExtension(none, 0, root, n, []string{x}) || digest.VerifyExtension(none, 0, root+"x", n, nil) || digest.VerifyExtension(none, 0, "", n, nil) {
				t.Errorf("accepted for %d entries", n)
			}
		}
	}
	for _, n := range []int{-1, -2, math.MinInt} {
		if digest.VerifyExtension(none, 0, none, n, nil) {
			t.Errorf("accepted for %d entries", n)
		}
	}
}

// P2.1: beginnings that are the whole list, for all numbers of entries.
func TestAllEntries(t *testing.T) {
	x, y := digest.Sum("x"), digest.Sum("y")
	for _, n := range []int{1, 2, 7, 8, math.MaxInt} {
		if !digest.VerifyExtension(x, n, x, n, nil) {
			t.Errorf("refused for %d entries", n)
		}
		if digest.VerifyExtension(x, n, y, n, nil) || digest.VerifyExtension(x, n, x, n, []string{x}) || digest.VerifyExtension("x", n, "x", n, nil) || digest.VerifyExtension("", n, "", n, nil) {
			t.Errorf("accepted for %d entries", n)
		}
	}
	for _, n := range []int{-1, -2, math.MinInt} {
		if digest.VerifyExtension(x, n, x, n, nil) {
			t.Errorf("accepted for %d entries", n)
		}
	}
}

// P2.1: VerifyExtension refuses numbers of first entries that are not from 0 to the number of entries.
func TestVerifyExtensionArguments(t *testing.T) {
	x := digest.Sum("x")
	for _, c := range []struct{ m, n int }{{-1, 0}, {-1, 2}, {3, 2}, {1, 0}, {1, -1}, {math.MinInt, math.MaxInt}, {math.MaxInt, 2}, {math.MaxInt, math.MinInt}} {
		for size := range 4 {
			if digest.VerifyExtension(x, c.m, x, c.n, slices.Repeat([]string{x}, size)) {
				t.Errorf("first %d of %d, %d elements", c.m, c.n, size)
			}
		}
	}
}

// P2.4: strings of other lengths are not taken for digests, though the same would be digested.
func TestNoDigestsInExtensions(t *testing.T) {
	a, b := digest.Leaf("a"), digest.Leaf("b")
	for _, x := range []string{"", "x", b[:31], b + "x", b + b} {
		if digest.VerifyExtension(a, 1, digest.Node(a, x), 2, []string{x}) || digest.VerifyExtension(x, 1, digest.Node(x, b), 2, []string{b}) {
			t.Errorf("%x is taken for a digest", x)
		}
		// The beginning is three entries of four: of the roots x, b and a, in this order.
		if root := digest.Node(a, digest.Node(x, b)); digest.VerifyExtension(digest.Node(a, x), 3, root, 4, []string{x, b, a}) {
			t.Errorf("%x is taken for the first of three digests", x)
		}
	}
	if root := digest.Node(a, digest.Node(b, a)); !digest.VerifyExtension(digest.Node(a, b), 3, root, 4, []string{b, a, a}) {
		t.Error("three digests are refused")
	}
}

// P2.1: VerifyExtension for numbers of entries up to the greatest one, and proofs of all lengths.
func TestVerifyExtensionGreatNumbers(t *testing.T) {
	random := rand.New(rand.NewSource(1))
	x := digest.Sum("x")
	all := someDigests()
	for _, n := range greatNumbers(random) {
		k := plainSplit(n)
		for _, m := range []int{1, n - 1, k, min(k+1, n-1), 1 + random.Intn(n-1)} {
			fits := 0
			for size := range all {
				old, root, ok := rootsOf(x, m, n, all[:size])
				if ok {
					fits++
				} else {
					old, root = x, x
				}
				if digest.VerifyExtension(old, m, root, n, all[:size]) != ok {
					t.Fatalf("first %d of %d, %d elements: want %t", m, n, size, ok)
				}
				if digest.VerifyExtension(old, m, all[0], n, all[:size]) || digest.VerifyExtension(all[0], m, root, n, all[:size]) {
					t.Fatalf("first %d of %d, %d elements: other roots are accepted", m, n, size)
				}
			}
			if fits != 1 {
				t.Fatalf("first %d of %d: %d lengths fit", m, n, fits)
			}
		}
	}
}
