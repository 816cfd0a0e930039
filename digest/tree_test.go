package digest_test

import (
	"math"
	"math/bits"
	"math/rand"
	"slices"
	"strconv"
	"testing"

	"onair/api"
	"onair/digest"
)

// longest is the length of the lists up to which all lists are tested.
const longest = 35

// entries returns a list of different entries.
func entries(n int) []string {
	l := make([]string, n)
	for i := range l {
		l[i] = "entry " + strconv.Itoa(i)
	}
	return l
}

// plainSplit returns where a list of n entries is split, as the chapter defines it.
func plainSplit(n int) int {
	k := 1
	for k < n-k {
		k *= 2
	}
	return k
}

// plainRoot returns the root of l, as the chapter defines it.
func plainRoot(l []string) string {
	if len(l) == 0 {
		return plainSum("")
	}
	if len(l) == 1 {
		return plainSum("\x00" + l[0])
	}
	k := plainSplit(len(l))
	return plainSum("\x01" + plainRoot(l[:k]) + plainRoot(l[k:]))
}

// plainProof returns the proof of the entry with the index i of l.
func plainProof(l []string, i int) []string {
	if len(l) == 1 {
		return nil
	}
	k := plainSplit(len(l))
	if i < k {
		return append(plainProof(l[:k], i), plainRoot(l[k:]))
	}
	return append(plainProof(l[k:], i-k), plainRoot(l[:k]))
}

// rootOf computes the value of n, i and a proof from its first element on, without recursion (as RFC 9162 does), and reports whether the proof has as many elements as it must have.
func rootOf(n, i int, leaf string, proof []string) (string, bool) {
	r, last := leaf, n-1
	for _, x := range proof {
		if last == 0 {
			return "", false
		}
		if i%2 == 1 || i == last {
			r = digest.Node(x, r)
			for i%2 == 0 && i != 0 {
				i, last = i/2, last/2
			}
		} else {
			r = digest.Node(r, x)
		}
		i, last = i/2, last/2
	}
	return r, last == 0
}

// someDigests returns different digests, more than any proof has.
func someDigests() []string {
	out := entries(70)
	for i, s := range out {
		out[i] = digest.Sum(s)
	}
	return out
}

// changed returns lists of strings that differ from a proof: in an element, in their order, in their lengths, and in elements that are no digests.
func changed(proof []string) [][]string {
	x := digest.Sum("x")
	out := [][]string{append([]string{x}, proof...), append(slices.Clone(proof), x), append(slices.Clone(proof), "")}
	for i, old := range proof {
		out = append(out, slices.Delete(slices.Clone(proof), i, i+1))
		out = append(out, append(slices.Clone(proof), old))
		for _, s := range []string{"", x, old + "x", old[:31], old + old, old[1:] + old[:1]} {
			other := slices.Clone(proof)
			other[i] = s
			out = append(out, other)
		}
		if i > 0 {
			other := slices.Clone(proof)
			other[i-1], other[i] = old, other[i-1]
			out = append(out, other)
		}
	}
	return out
}

// P2.1: roots of lists of all lengths up to some, and of longer ones.
func TestRoot(t *testing.T) {
	sizes := []int{1000, 1023, 1024, 1025}
	for n := range 2*longest + 1 {
		sizes = append(sizes, n)
	}
	for _, n := range sizes {
		if l := entries(n); digest.Root(l) != plainRoot(l) {
			t.Errorf("root of %d entries", n)
		}
	}
	for _, l := range [][]string{{""}, {"", ""}, {"a", "a", "a"}, {noise(100), "", noise(64), "\x01", noise(33)}} {
		if digest.Root(l) != plainRoot(l) {
			t.Errorf("root of %x", l)
		}
	}
}

// P2.3: lists that look alike have different roots.
func TestDifferentRoots(t *testing.T) {
	a, b := digest.Leaf("a"), digest.Leaf("b")
	seen := map[string]int{}
	for i, l := range [][]string{
		nil, {""}, {"", ""}, {"a"}, {"a", "b"}, {"b", "a"}, {"ab"}, {"a", "b", ""}, {"", "a", "b"},
		{a + b}, {a, b}, {"\x01" + a + b}, {digest.Node(a, b)}, {"a", "a"}, {"a", "a", "a"}, {"a", "a", "a", "a"},
	} {
		root := digest.Root(l)
		if k, ok := seen[root]; ok {
			t.Errorf("the lists %d and %d have the same root", i, k)
		}
		seen[root] = i
	}
}

// P2.1: the chapter's examples of proofs.
func TestExamples(t *testing.T) {
	l := []string{"a", "b", "c"}
	a, b, c := digest.Leaf("a"), digest.Leaf("b"), digest.Leaf("c")
	root, old := digest.Root(l), digest.Root(l[:1])
	p, err := digest.Proof(l, 2)
	if !slices.Equal(p, []string{digest.Node(a, b)}) || err != api.OK || !digest.Verify(root, 3, 2, "c", p) {
		t.Errorf("proof of the last of three entries: %x, %d", p, err)
	}
	p, err = digest.Extension(l, 1)
	if !slices.Equal(p, []string{b, c}) || err != api.OK || !digest.VerifyExtension(old, 1, root, 3, p) {
		t.Errorf("proof of the first of three entries: %x, %d", p, err)
	}
}

// P2.1, P2.2: proofs of all entries of all lists up to some length: their elements, how many there are, and that Verify accepts them, only for their entries.
func TestProofs(t *testing.T) {
	for n := 1; n <= longest; n++ {
		l := entries(n)
		root := digest.Root(l)
		for i := range n {
			p, err := digest.Proof(l, i)
			if !slices.Equal(p, plainProof(l, i)) || err != api.OK || len(p) > bits.Len(uint(n)) {
				t.Errorf("proof of %d of %d: %x, %d", i, n, p, err)
			}
			for k := -1; k <= n; k++ {
				if digest.Verify(root, n, k, l[i], p) != (k == i) {
					t.Errorf("proof of %d of %d, for the index %d", i, n, k)
				}
			}
			for _, s := range []string{"", "entry", l[i] + "x", l[(i+1)%n] + "x", root, digest.Leaf(l[i]), "\x00" + l[i]} {
				if digest.Verify(root, n, i, s, p) {
					t.Errorf("proof of %d of %d, for the entry %x", i, n, s)
				}
			}
		}
	}
}

// P2.1, P2.3: Verify refuses what differs from a proof, and other roots.
func TestChangedProofs(t *testing.T) {
	for n := 1; n <= 17; n++ {
		l := entries(n)
		root := digest.Root(l)
		for i := range n {
			p, _ := digest.Proof(l, i)
			for _, other := range changed(p) {
				if digest.Verify(root, n, i, l[i], other) {
					t.Errorf("proof of %d of %d, changed to %x", i, n, other)
				}
			}
			for _, r := range []string{"", root + "x", root[:31], digest.Sum(root), digest.Root(l[1:])} {
				if digest.Verify(r, n, i, l[i], p) {
					t.Errorf("proof of %d of %d, for the root %x", i, n, r)
				}
			}
		}
	}
}

// P2.1: Proof returns ErrArg, and nothing else, for what is no index.
func TestNoProof(t *testing.T) {
	for n := range 6 {
		for _, i := range []int{-1, n, n + 1, math.MinInt, math.MaxInt} {
			if p, err := digest.Proof(entries(n), i); len(p) != 0 || err != api.ErrArg {
				t.Errorf("Proof of %d of %d: %x, %d; want ErrArg", i, n, p, err)
			}
		}
	}
}

// P2.1: Verify refuses what is no number of entries and no index in it.
func TestVerifyArguments(t *testing.T) {
	leaf := digest.Leaf("a")
	if !digest.Verify(leaf, 1, 0, "a", []string{}) {
		t.Error("the only entry is refused")
	}
	for _, c := range []struct{ n, i int }{
		{0, 0}, {-1, 0}, {-1, -1}, {1, 1}, {1, -1}, {math.MinInt, 0}, {math.MinInt, math.MinInt}, {math.MaxInt, math.MaxInt}, {math.MaxInt, -1}, {2, 0}, {math.MaxInt, 0},
	} {
		if digest.Verify(leaf, c.n, c.i, "a", nil) || digest.Verify(leaf, c.n, c.i, "a", []string{leaf}) {
			t.Errorf("index %d of %d", c.i, c.n)
		}
	}
	for n := -1; n < 3; n++ {
		if digest.Verify("", n, 0, "a", nil) || digest.Verify(digest.Sum(""), n, 0, "", nil) {
			t.Errorf("an entry of no entries, %d", n)
		}
	}
}

// P2.3: digests of a pair are not taken for an entry, nor strings of other lengths for digests, though the same would be digested.
func TestNoDigests(t *testing.T) {
	a, b := digest.Leaf("a"), digest.Leaf("b")
	if root := digest.Node(a, b); digest.Verify(root, 1, 0, a+b, nil) || digest.Verify(root, 1, 0, "\x01"+a+b, nil) {
		t.Error("a pair of digests is taken for an entry")
	}
	for _, x := range []string{"", "x", b[:31], b + "x", b + b} {
		if digest.Verify(digest.Node(a, x), 2, 0, "a", []string{x}) || digest.Verify(digest.Node(x, a), 2, 1, "a", []string{x}) {
			t.Errorf("%x is taken for a digest", x)
		}
		if digest.Verify(digest.Node(digest.Node(a, x), b), 3, 0, "a", []string{x, b}) || digest.Verify(digest.Node(digest.Node(a, b), x), 3, 0, "a", []string{b, x}) {
			t.Errorf("%x is taken for one of two digests", x)
		}
	}
}

// greatNumbers returns numbers of entries up to the greatest one: powers of two, what is beside them, and others.
func greatNumbers(random *rand.Rand) []int {
	all := []int{2, 3, 5, 6, 7, 11, 13, 21, 100}
	for bit := 2; bit < 63; bit += 5 {
		all = append(all, 1<<bit-1, 1<<bit, 1<<bit+1, 1<<bit+random.Intn(1<<bit))
	}
	return append(all, math.MaxInt-1, math.MaxInt)
}

// P2.1: Verify for numbers of entries up to the greatest one, and proofs of all lengths.
func TestVerifyGreatNumbers(t *testing.T) {
	random := rand.New(rand.NewSource(1))
	all := someDigests()
	for _, n := range greatNumbers(random) {
		k := plainSplit(n)
		for _, i := range []int{0, n - 1, k - 1, k, random.Intn(n)} {
			fits := 0
			for size := range all {
				root, ok := rootOf(n, i, digest.Leaf("a"), all[:size])
				if ok {
					fits++
				}
				if digest.Verify(root, n, i, "a", all[:size]) != ok || digest.Verify(root, n, i, "b", all[:size]) {
					t.Fatalf("index %d of %d, %d elements: want %t", i, n, size, ok)
				}
			}
			if fits != 1 {
				t.Fatalf("index %d of %d: %d lengths fit", i, n, fits)
			}
		}
	}
}

// P2.1: proofs of very many elements are refused.
func TestLongProofs(t *testing.T) {
	x := digest.Sum("")
	long := slices.Repeat([]string{x}, 100000)
	for _, n := range []int{1, 2, 3, math.MaxInt} {
		if digest.Verify(x, n, 0, "", long) || digest.VerifyExtension(x, 1, x, n, long) || digest.VerifyExtension(x, 0, x, n, long) || digest.VerifyExtension(x, n, x, n, long) {
			t.Errorf("a long proof is accepted for %d entries", n)
		}
	}
}

// R3: arguments are not modified, nor is their spare capacity, and results share no memory with them or with each other.
func TestMemory(t *testing.T) {
	all := entries(9)
	l := all[:7]
	for i := range 7 {
		p, _ := digest.Proof(l, i)
		q, _ := digest.Proof(l, i)
		x, _ := digest.Extension(l, i)
		y, _ := digest.Extension(l, i)
		digest.Root(l)
		for _, s := range [][]string{p, x} {
			s = s[:cap(s)]
			for k := range s {
				s[k] = "overwritten"
			}
		}
		if !slices.Equal(q, plainProof(l, i)) || !slices.Equal(y, plainExtension(l, i)) {
			t.Errorf("two results for %d share memory", i)
		}
		if !slices.Equal(all, entries(9)) {
			t.Fatalf("the list is modified for %d", i)
		}
		spare := append(slices.Clone(q), "spare")
		digest.Verify(digest.Root(l), 7, i, l[i], spare[:len(q)])
		if !slices.Equal(spare, append(q, "spare")) {
			t.Errorf("the proof of %d is modified", i)
		}
		spare = append(slices.Clone(y), "spare")
		digest.VerifyExtension(digest.Root(l[:i]), i, digest.Root(l), 7, spare[:len(y)])
		if !slices.Equal(spare, append(y, "spare")) {
			t.Errorf("the proof of the first %d is modified", i)
		}
	}
}
