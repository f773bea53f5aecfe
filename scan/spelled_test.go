package scan

import (
	"math/rand/v2"
	"slices"
	"strconv"
	"strings"
	"testing"

	"pantry/dict"
)

// log2 tells how many digits count in a table of n buckets.
func log2(n uint64) int { return len(strconv.FormatUint(n, 2)) - 1 }

func padded(number uint64, digits int) string {
	word := strconv.FormatUint(number, 2)
	return strings.Repeat("0", max(0, digits-len(word))) + word
}

func turned(row string) string {
	l := []byte(row)
	slices.Reverse(l)
	return string(l)
}

func asNumber(row string) uint64 {
	n, err := strconv.ParseUint(row, 2, 64)
	if err != nil {
		panic(err)
	}
	return n
}

// spelledAfter is the chapter's cursor behind c in n buckets, digit by digit in texts.
func spelledAfter(c uint64, buckets int) uint64 {
	n := uint64(1)
	for 2*n <= uint64(max(buckets, 1)) {
		n *= 2
	}
	digits := log2(n)
	if digits == 0 { // a row without digits is 0, and 1 more is n
		return 0
	}
	more := asNumber(turned(padded(c%n, digits))) + 1
	if more == n {
		return 0
	}
	return asNumber(turned(padded(more, digits)))
}

// countsInGreaterOnly says whether c has a digit 1 among those places that count in g and not in s.
func countsInGreaterOnly(c, s, g uint64) bool {
	for place := log2(s); place < log2(g); place++ {
		if c>>place&1 == 1 {
			return true
		}
	}
	return false
}

// spelledScan is the chapter's "a table is scanned from c".
func spelledScan[V any](d *dict.Dict[V], c uint64) (uint64, []string) {
	old, young, _ := d.Sizes()
	if young == 0 {
		return spelledAfter(c, old), d.Bucket(0, int(c%uint64(old)))
	}
	s, g := 0, 1
	sizes := []uint64{uint64(old), uint64(young)}
	if old > young {
		s, g = 1, 0
	}
	told := d.Bucket(s, int(c%sizes[s]))
	for again := true; again; again = countsInGreaterOnly(c, sizes[s], sizes[g]) {
		told = append(told, d.Bucket(g, int(c%sizes[g]))...)
		c = spelledAfter(c, int(sizes[g]))
	}
	return c, told
}

// spelledNext is P6.1.
func spelledNext[V any](d *dict.Dict[V], c uint64, count int) (uint64, []string) {
	if old, _, _ := d.Sizes(); d == nil || old == 0 {
		return 0, nil
	}
	enough := count
	if count < 1 {
		enough = 1
	}
	c, all := spelledScan(d, c)
	for len(all) < enough && c != 0 {
		var more []string
		c, more = spelledScan(d, c)
		all = append(all, more...)
	}
	return c, all
}

func holdNext[V any](t *testing.T, d *dict.Dict[V], c uint64, count int) {
	t.Helper()
	got, keys := Next(d, c, count)
	want, told := spelledNext(d, c, count)
	if got != want || !slices.Equal(keys, told) {
		old, young, at := d.Sizes()
		t.Fatalf("Next(%d, %d) of %d, %d, %d: %d %q, not %d %q", c, count, old, young, at, got, keys, want, told)
	}
}

// holdAll compares Next from every cursor that the tables know, and from some that they do not.
func holdAll[V any](t *testing.T, d *dict.Dict[V]) {
	t.Helper()
	old, young, _ := d.Sizes()
	beyond := uint64(max(old, young, 1))
	for c := range beyond {
		for _, high := range []uint64{0, beyond, 6 * beyond, -beyond} {
			for _, count := range []int{-1, 0, 1, 2, 3, d.Len() / 2, d.Len(), d.Len() + 1} {
				holdNext(t, d, c+high, count)
			}
		}
	}
}

func TestP6_2_AgainstTheWords(t *testing.T) {
	var cursors []uint64
	for place := range 64 {
		one := uint64(1) << place
		cursors = append(cursors, one-1, one, one+1, -one, -one-1)
	}
	r := rand.New(rand.NewPCG(6, 2))
	for range 200 {
		cursors = append(cursors, r.Uint64(), r.Uint64()>>r.IntN(64))
	}
	var buckets []int
	for place := range 63 {
		one := 1 << place
		buckets = append(buckets, one-1, one, one+1, -one, one+one/2)
	}
	for _, c := range cursors {
		for _, n := range buckets {
			if got, want := After(c, n), spelledAfter(c, n); got != want {
				t.Fatalf("After(%d, %d): %d, not %d", c, n, got, want)
			}
		}
	}
}

func TestP6_1_AgainstTheWordsWhileItIsFilledAndEmptied(t *testing.T) {
	for seed := range uint64(3) {
		d := dict.New[int](seed)
		for i := range 34 {
			d.Set(name(i), i)
			holdAll(t, d)
		}
		for i := range 34 {
			d.Delete(name(i))
			holdAll(t, d)
		}
	}
}

func TestP6_1_AgainstTheWordsAtEveryPlaceOfAMove(t *testing.T) {
	for seed := range uint64(3) {
		for _, d := range []*dict.Dict[int]{growing(seed, 4), growing(seed, 8), growing(seed, 16),
			shrinking(seed, 8), shrinking(seed, 16), shrinking(seed, 32), shrinking(seed, 64)} {
			old, young, _ := d.Sizes()
			if young == 0 {
				t.Fatalf("%d, %d: it should be moving", old, young)
			}
			for calls := 0; young > 0 && calls <= old; calls++ {
				holdAll(t, d)
				d.Get("nobody")
				_, young, _ = d.Sizes()
			}
			if young > 0 {
				t.Fatal("the moving does not end")
			}
			holdAll(t, d)
		}
	}
}

func TestP6_1_AgainstTheWordsAtRandom(t *testing.T) {
	r := rand.New(rand.NewPCG(6, 1))
	for range 60 {
		d := dict.New[int](r.Uint64())
		for range 150 {
			disturb(d, r)
			for range 4 {
				holdNext(t, d, r.Uint64()>>r.IntN(64), r.IntN(60)-2)
			}
		}
	}
}
