package dict

import (
	"maps"
	"math"
	"runtime"
	"slices"
	"strconv"
	"testing"
	"weak"

	"pantry/draw"
)

// keysIn finds n keys that stand in one bucket of a table of so many.
func keysIn(seed uint64, buckets, bucket, n int) []string {
	var keys []string
	for i := 0; len(keys) < n && i < 1000*n*buckets; i++ {
		key := "k" + strconv.Itoa(i)
		if draw.Hash(seed, key)%uint64(buckets) == uint64(bucket) {
			keys = append(keys, key)
		}
	}
	return keys
}

// settled makes a dict that is not moving, with old of so many buckets, that holds these keys and no others. There
// must be more than an eighth as many keys as buckets, and no more than buckets.
func settled(t *testing.T, seed uint64, buckets int, keys []string) both {
	t.Helper()
	b := newBoth(t, seed)
	var fillers []string
	for i := range buckets/2 + 1 {
		fillers = append(fillers, "filler"+strconv.Itoa(i))
		b.set(fillers[i], i)
	}
	b.settle()
	for i, key := range keys { // one goes for each that comes: it never gets too full or too empty
		if i < len(fillers) {
			b.delete(fillers[i])
		}
		b.set(key, i)
	}
	for _, filler := range fillers[min(len(keys), len(fillers)):] {
		b.delete(filler)
	}
	b.sizes(buckets, 0, 0)
	return b
}

// oneIn finds a key for each of these buckets of a table of so many.
func oneIn(seed uint64, buckets int, places ...int) []string {
	var keys []string
	for _, place := range places {
		keys = append(keys, keysIn(seed, buckets, place, 1)...)
	}
	return keys
}

func TestP5_1_NewAndLen(t *testing.T) {
	for _, seed := range []uint64{0, 1, 7, math.MaxUint64} {
		d := New[string](seed)
		if d == nil || d.Len() != 0 {
			t.Fatal("a new dict holds keys, or is none", seed)
		}
		for i := range 100 {
			d.Set(strconv.Itoa(i), "")
			d.Set(strconv.Itoa(i/2), "again")
			if d.Len() != i+1 {
				t.Fatal(seed, i, d.Len())
			}
		}
		for i := range 100 {
			d.Delete(strconv.Itoa(i))
			d.Delete(strconv.Itoa(i / 2))
			d.Delete("none")
			if d.Len() != 99-i {
				t.Fatal(seed, i, d.Len())
			}
		}
	}
}

func TestP5_1_DictsAreApart(t *testing.T) {
	a, b := New[int](3), New[int](3)
	a.Set("k", 1)
	if _, ok := b.Get("k"); ok || b.Len() != 0 {
		t.Error("a key of one dict is seen in another one")
	}
	b.Set("k", 2)
	b.Delete("k")
	if v, ok := a.Get("k"); v != 1 || !ok || a.Len() != 1 {
		t.Error(v, ok, a.Len())
	}
	a.Clear()
	a.Set("j", 1)
	if b.Len() != 0 {
		t.Error("a key of one dict is counted in another one")
	}
}

func TestP5_2_ChapterExamples(t *testing.T) {
	d := newBoth(t, 0)
	d.sizes(0, 0, 0)
	if !d.d.Set("a", 1) || !d.m.set("a", 1) {
		t.Error("the first key is not new")
	}
	d.sizes(4, 0, 0)
	if d.d.Set("a", 2) || d.m.set("a", 2) {
		t.Error("the key is new though it was there")
	}
	for _, key := range []string{"b", "c", "d"} {
		d.set(key, 3)
		d.sizes(4, 0, 0)
	}
	d.set("e", 5)
	d.sizes(4, 8, 0)
	if got := d.d.Bucket(1, int(draw.Hash(0, "e")%8)); !slices.Equal(got, []string{"e"}) {
		t.Errorf("the fifth key does not stand in young: %q", got)
	}
	first := 0
	for first < 3 && len(d.d.Bucket(0, first)) == 0 {
		first++
	}
	d.get("none")
	if _, _, at := d.d.Sizes(); at != first+1 || len(d.d.Bucket(0, first)) != 0 {
		t.Error("the first bucket that is not empty was not moved:", at)
	}

	s := settled(t, 0, 16, anyKeys(9))
	for i, key := range anyKeys(7) {
		s.sizes(16, 0, 0)
		s.delete(key)
		if s.d.Len() != 8-i {
			t.Error(s.d.Len())
		}
	}
	s.sizes(16, 4, 0)
	s.clear()
	s.sizes(0, 0, 0)
}

func TestP5_2_NothingIsThere(t *testing.T) {
	d := New[string](5)
	ask := func(keys ...string) {
		t.Helper()
		for _, key := range keys {
			if v, ok := d.Get(key); v != "" || ok {
				t.Errorf("Get(%q): %q %v", key, v, ok)
			}
			if d.Delete(key) {
				t.Errorf("Delete(%q): true", key)
			}
		}
	}
	ask("", "a", "\xff")
	if old, _, _ := d.Sizes(); old != 0 {
		t.Error("asking made a table")
	}
	d.Set("a", "x")
	ask("", "A", "a\x00", "aa")
	d.Delete("a")
	ask("a", "")
	d.Set("", "empty")
	ask("a")
	if v, ok := d.Get(""); v != "empty" || !ok {
		t.Error(v, ok)
	}
}

func TestP5_2_AnyKeys(t *testing.T) {
	keys := anyKeys(12)
	for _, seed := range []uint64{0, 9} {
		b := newBoth(t, seed)
		for i, key := range keys {
			b.set(key, i)
		}
		for i, key := range keys {
			if v, ok := b.d.Get(key); v != i || !ok {
				t.Errorf("%q: %d %v", key, v, ok)
			}
			b.m.step()
		}
		for i, key := range keys {
			b.set(key, -i)
			b.get(key)
			b.delete(key)
			b.get(key)
			b.delete(key)
		}
	}
}

// TestP5_2_WhileItMoves gets, sets anew and deletes a key that stands in old, and one that stands in young.
func TestP5_2_WhileItMoves(t *testing.T) {
	acts := []struct {
		name string
		do   func(b both, key string)
	}{
		{"get", func(b both, key string) { b.get(key) }},
		{"set", func(b both, key string) { b.set(key, 77) }},
		{"delete", func(b both, key string) { b.delete(key) }},
	}
	keys := oneIn(0, 8, 0, 1, 2, 3, 4, 5, 6, 7)
	for _, act := range acts {
		for i, key := range append(slices.Clone(keys), "ninth", "none") {
			b := settled(t, 0, 8, keys)
			b.set("ninth", 9)
			b.sizes(8, 16, 0)
			b.get("none")
			b.sizes(8, 16, 1)
			act.do(b, key)
			b.sizes(8, 16, 2)
			where := 1
			if i >= 2 && i < 8 {
				where = 0 // behind at
			}
			old, young, _ := b.d.Sizes()
			n := []int{old, young}[where]
			stands := slices.Contains(b.d.Bucket(where, int(draw.Hash(0, key)%uint64(n))), key)
			if want := act.name != "delete" && key != "none" || act.name == "set"; stands != want {
				t.Errorf("%s of %q (%d): it stands in table %d: %v", act.name, key, i, where, stands)
			}
			for range 8 {
				b.get(key)
			}
			b.sizes(16, 0, 0)
			b.get(key)
		}
	}
}

func TestP5_2_Clear(t *testing.T) {
	for n := range 40 {
		b := newBoth(t, 4)
		b.clear()
		for i, key := range anyKeys(n) {
			b.set(key, i)
		}
		b.clear()
		b.sizes(0, 0, 0)
		if b.d.Len() != 0 {
			t.Fatal(n, b.d.Len())
		}
		for _, key := range anyKeys(n) {
			b.get(key)
		}
		b.set("", 3)
		b.sizes(4, 0, 0)
		for i, key := range anyKeys(n) {
			b.set(key, i+100) // where they lie now hangs on the same seed
		}
	}
}

func TestP5_2_ClearWhileMoving(t *testing.T) {
	b := newBoth(t, 8)
	for i, key := range anyKeys(17) {
		b.set(key, i)
	}
	b.get("none")
	if _, young, at := b.d.Sizes(); young == 0 || at == 0 {
		t.Fatal("it is not moving")
	}
	b.clear()
	b.sizes(0, 0, 0)
	b.get("1")
	b.delete("1")
	b.sizes(0, 0, 0)
	for i, key := range anyKeys(30) {
		b.set(key, i)
	}
}

// TestP5_2_HoldsOnToNothing: what was replaced, deleted or cleared is not kept, also not behind the end of a chain.
func TestP5_2_HoldsOnToNothing(t *testing.T) {
	type big struct{ bytes [1000]byte }
	d := New[*big](6)
	keys := keysIn(6, 8, 5, 5)
	rows := []struct {
		name string
		lose func()
	}{
		{"the chain's last", func() { d.Delete(keys[0]) }},
		{"the chain's head", func() { d.Delete(keys[4]) }},
		{"the chain's middle", func() { d.Delete(keys[2]) }},
		{"replaced", func() { d.Set(keys[1], nil) }},
		{"cleared", func() { d.Clear() }},
	}
	for i, row := range rows {
		for _, moving := range []bool{true, false} {
			d.Clear()
			var values []weak.Pointer[big]
			for _, key := range keys {
				v := new(big)
				d.Set(key, v)
				values = append(values, weak.Make(v))
			}
			if _, young, _ := d.Sizes(); young == 0 {
				t.Fatal("it is not moving")
			}
			for range 4 {
				if !moving {
					d.Get(keys[0])
				}
			}
			row.lose()
			runtime.GC()
			lost := []int{0, 4, 2, 1, 3}[i]
			if values[lost].Value() != nil {
				t.Errorf("%s, moving %v: the value is held on to", row.name, moving)
			}
			if v, ok := d.Get(keys[3]); ok != (row.name != "cleared") || ok && values[3].Value() != v {
				t.Errorf("%s, moving %v: another value was lost", row.name, moving)
			}
		}
	}
}

func TestP5_3_NewAndFew(t *testing.T) {
	b := newBoth(t, 0)
	for i, want := range [][2]int{{0, 0}, {4, 0}, {4, 0}, {4, 0}, {4, 0}, {4, 8}} {
		b.sizes(want[0], want[1], 0)
		b.set(strconv.Itoa(i), i)
	}
	again := newBoth(t, 0)
	for i := range 4 {
		again.set(strconv.Itoa(i), i)
	}
	for i := range 4 {
		again.set(strconv.Itoa(i), i+10) // as many keys as buckets, and no new one
		again.sizes(4, 0, 0)
	}
}

func TestP5_3_ChainsOrder(t *testing.T) {
	keys := keysIn(6, 8, 5, 5)
	b := newBoth(t, 6)
	for i, key := range keys[:4] {
		b.set(key, i)
	}
	chain := []string{keys[3], keys[2], keys[1], keys[0]}
	if got := b.d.Bucket(0, 1); !slices.Equal(got, chain) {
		t.Fatalf("%q, not %q", got, chain)
	}
	b.set(keys[1], 11) // a key that is set anew stays where it is
	if got := b.d.Bucket(0, 1); !slices.Equal(got, chain) {
		t.Fatalf("%q, not %q", got, chain)
	}
	b.set(keys[4], 4)
	b.sizes(4, 8, 0)
	if got := b.d.Bucket(1, 5); !slices.Equal(got, keys[4:]) {
		t.Fatalf("%q", got)
	}
	b.get(keys[2]) // the head goes over first, and the others go ahead of it
	b.sizes(4, 8, 2)
	if got, want := b.d.Bucket(1, 5), keys; !slices.Equal(got, want) {
		t.Fatalf("%q, not %q", got, want)
	}
	if got := b.d.Bucket(0, 1); len(got) != 0 {
		t.Fatalf("what was moved stands in old: %q", got)
	}
	b.delete(keys[2])
	b.sizes(8, 0, 0)
	if got, want := b.d.Bucket(0, 5), []string{keys[0], keys[1], keys[3], keys[4]}; !slices.Equal(got, want) {
		t.Fatalf("%q, not %q", got, want)
	}
	for i, key := range keys[:4] {
		if v, ok := b.d.Get(key); ok != (i != 2) || ok && v != []int{0, 11, 0, 3}[i] {
			t.Error(i, v, ok)
		}
	}
}

func TestP5_3_ChainGoesTwoWays(t *testing.T) {
	low, high := keysIn(2, 8, 1, 2), keysIn(2, 8, 5, 2)
	b := newBoth(t, 2)
	for i, key := range []string{low[0], high[0], low[1], high[1]} {
		b.set(key, i)
	}
	b.set(keysIn(2, 8, 7, 1)[0], 9)
	b.get("none")
	b.sizes(4, 8, 2)
	if got := b.d.Bucket(1, 1); !slices.Equal(got, low) {
		t.Errorf("%q, not %q", got, low)
	}
	if got := b.d.Bucket(1, 5); !slices.Equal(got, high) {
		t.Errorf("%q, not %q", got, high)
	}
}

func TestP5_3_NoSuchBucket(t *testing.T) {
	b := settled(t, 0, 8, anyKeys(8))
	b.set("ninth", 9)
	b.sizes(8, 16, 0)
	wrong := []struct{ table, i int }{
		{2, 0}, {-1, 0}, {3, 3}, {math.MaxInt, 0}, {math.MinInt, 0},
		{0, -1}, {0, 8}, {0, math.MaxInt}, {0, math.MinInt},
		{1, -1}, {1, 16}, {1, math.MaxInt}, {1, math.MinInt},
	}
	for _, w := range wrong {
		if got := b.d.Bucket(w.table, w.i); len(got) != 0 {
			t.Errorf("Bucket(%d, %d): %q", w.table, w.i, got)
		}
	}
	if got := b.d.Bucket(1, int(draw.Hash(0, "ninth")%16)); len(got) != 1 {
		t.Errorf("%q", got)
	}
	empty := New[int](0)
	for _, table := range []int{-1, 0, 1, 2} {
		for _, i := range []int{-1, 0, 1} {
			if got := empty.Bucket(table, i); len(got) != 0 {
				t.Errorf("Bucket(%d, %d) of a new dict: %q", table, i, got)
			}
		}
	}
}

func TestP5_3_BucketIsNewMemory(t *testing.T) {
	keys := keysIn(1, 4, 2, 3)
	b := newBoth(t, 1)
	for i, key := range keys {
		b.set(key, i)
	}
	got := b.d.Bucket(0, 2)
	for i := range got {
		got[i] = "spoilt"
	}
	got = append(got, "more")
	hold(t, b.d, b.m)
	b.set(keys[0], 9)
	b.delete(keys[1])
	if got[0] != "spoilt" || len(got) != 4 {
		t.Errorf("%q", got)
	}
}

// TestP5_3_TenEmptyBuckets: all keys stand in one bucket, and steps come to it over those that are empty.
func TestP5_3_TenEmptyBuckets(t *testing.T) {
	begin := func(bucket int) both {
		b := newBoth(t, 3)
		for i, key := range keysIn(3, 16, bucket, 17) {
			b.set(key, i)
		}
		b.sizes(16, 32, 0)
		return b
	}
	rows := []struct {
		bucket int
		at     []int // behind each Get, as long as it moves
	}{
		{0, []int{1, 11}},
		{1, []int{2, 12}},
		{5, []int{6}},
		{6, []int{7}},
		{9, []int{10}},
		{10, []int{11}},
		{11, []int{10, 12}},
		{12, []int{10, 13}},
		{14, []int{10, 15}},
		{15, []int{10}},
	}
	for _, row := range rows {
		b := begin(row.bucket)
		for _, at := range row.at {
			b.get("none")
			b.sizes(16, 32, at)
		}
		b.get("none")
		b.sizes(32, 0, 0)
	}
}

// TestP5_3_TenPassedToTheEnd: the last bucket that is passed is the last one that there is, and one short of it.
func TestP5_3_TenPassedToTheEnd(t *testing.T) {
	for _, at := range []int{5, 6} {
		b := newBoth(t, 3)
		for i, key := range keysIn(3, 16, at-1, 17) {
			b.set(key, i)
		}
		b.get("none")
		b.sizes(16, 32, at)
		b.delete("none")
		if at == 6 {
			b.sizes(32, 0, 0)
			continue
		}
		b.sizes(16, 32, 15)
		b.delete("none")
		b.sizes(32, 0, 0)
	}
}

// TestP5_3_WhoDoesAStep: Get, Set and Delete do one, whatever they find.
func TestP5_3_WhoDoesAStep(t *testing.T) {
	keys := oneIn(0, 8, 0, 1, 2, 3, 4, 5, 6, 7)
	b := settled(t, 0, 8, keys)
	b.set("ninth", 9)
	b.sizes(8, 16, 0)
	b.get("none")
	b.sizes(8, 16, 1)
	b.get(keys[7])
	b.sizes(8, 16, 2)
	b.delete("none")
	b.sizes(8, 16, 3)
	b.set(keys[0], 5)
	b.sizes(8, 16, 4)
	b.set(keys[6], 6)
	b.sizes(8, 16, 5)
	b.set("tenth", 10)
	b.sizes(8, 16, 6)
	b.delete(keys[7])
	b.sizes(8, 16, 7)
	b.get("none") // the last bucket is empty by now
	b.sizes(16, 0, 0)
}

// shrinking makes a dict that moves from 64 buckets to 8, with eight keys, in these buckets of the 64.
func shrinking(t *testing.T, seed uint64, places ...int) (both, []string) {
	t.Helper()
	keys := oneIn(seed, 64, places...)
	b := settled(t, seed, 64, append([]string{"ninth"}, keys...))
	b.delete("ninth")
	b.sizes(64, 8, 0)
	return b, keys
}

func TestP5_3_SetEndsTheMovingAndGrows(t *testing.T) {
	b, _ := shrinking(t, 0, 0, 1, 2, 3, 4, 5, 6, 7)
	for i := range 13 {
		b.set("more"+strconv.Itoa(i), i)
		if old, young, _ := b.d.Sizes(); old != 64 || young != 8 {
			t.Fatal(i, old, young)
		}
	}
	b.sizes(64, 8, 58)
	b.set("more0", 9) // it ends the moving, but it is no new key
	b.sizes(8, 0, 0)
	b.set("last", 10)
	b.sizes(8, 16, 0)

	c, _ := shrinking(t, 0, 0, 1, 2, 3, 4, 5, 6, 7)
	for i := range 13 {
		c.set("more"+strconv.Itoa(i), i)
	}
	c.sizes(64, 8, 58)
	c.set("last", 10) // it ends the moving, and there are 21 keys in 8 buckets
	c.sizes(8, 16, 0)
	if got := c.d.Bucket(1, int(draw.Hash(0, "last")%16)); !slices.Equal(got, []string{"last"}) {
		t.Errorf("%q", got)
	}
}

func TestP5_3_SetEndsTheMovingWithoutGrowing(t *testing.T) {
	b, keys := shrinking(t, 0, 0, 1, 2, 3, 4, 5, 6, 7)
	b.delete(keys[0])
	for range 12 {
		b.get("none")
	}
	b.sizes(64, 8, 58)
	b.set("eighth", 1) // seven keys are fewer than eight buckets
	b.sizes(8, 0, 0)
	if got := b.d.Bucket(0, int(draw.Hash(0, "eighth")%8)); len(got) == 0 || got[0] != "eighth" {
		t.Errorf("%q", got)
	}
	b.set("ninth", 1)
	b.sizes(8, 16, 0)
}

func TestP5_3_DeleteEndsTheMovingAndShrinks(t *testing.T) {
	for _, left := range []int{0, 1, 2} {
		b, keys := shrinking(t, 0, 0, 1, 2, 3, 4, 5, 6, 7)
		for _, key := range keys[:7-left] {
			b.delete(key)
			if _, young, _ := b.d.Sizes(); young != 8 {
				t.Fatal("it shrinks while it is moving")
			}
		}
		for range left + 1 + 5 {
			b.get("none")
		}
		b.sizes(64, 8, 58)
		b.delete(keys[7])
		if left < 2 {
			b.sizes(8, 4, 0)
		} else {
			b.sizes(8, 0, 0) // two keys are more than an eighth of the buckets
		}
		if b.d.Len() != left {
			t.Fatal(b.d.Len())
		}
		b.settle()
		b.sizes([]int{4, 4, 8}[left], 0, 0)
	}
}

func TestP5_3_ShrinksTo(t *testing.T) {
	for _, row := range []struct{ buckets, young int }{{8, 4}, {16, 4}, {32, 4}, {64, 8}, {128, 16}, {256, 32}} {
		most := row.buckets / 8
		keys := anyKeys(most + 2)
		b := settled(t, 5, row.buckets, keys)
		b.delete("none")
		b.sizes(row.buckets, 0, 0)
		b.delete(keys[0])
		b.sizes(row.buckets, 0, 0) // one key more than an eighth is left
		b.delete(keys[0])
		b.sizes(row.buckets, 0, 0)
		b.delete(keys[1])
		b.sizes(row.buckets, row.young, 0)
		b.settle()
		b.sizes(row.young, 0, 0)
	}
}

// TestP5_3_ShrinksToAPowerOfTwo: behind a moving, in which it does not shrink, far fewer keys may be left than an
// eighth of the buckets.
func TestP5_3_ShrinksToAPowerOfTwo(t *testing.T) {
	places := make([]int, 128)
	for i := range places {
		places[i] = i
	}
	keys := append(oneIn(1, 128, places...), "last")
	for _, row := range []struct{ left, young int }{{1, 4}, {3, 4}, {4, 4}, {5, 8}, {8, 8}, {9, 16}, {11, 16}, {16, 16}, {17, 32}, {31, 32}, {32, 32}, {33, 0}} {
		b := settled(t, 1, 128, keys[:128])
		b.set("last", 0)
		gone := len(keys) - row.left
		for i, key := range keys[:gone-1] {
			b.sizes(128, 256, i)
			b.delete(key)
		}
		for range len(places) - (gone - 1) {
			b.get("none")
		}
		b.sizes(256, 0, 0)
		b.delete(keys[gone-1])
		b.sizes(256, row.young, 0)
		if b.d.Len() != row.left {
			t.Fatal(b.d.Len())
		}
		b.settle()
	}
}

func TestP5_3_FourBucketsStay(t *testing.T) {
	b := newBoth(t, 0)
	for i, key := range anyKeys(4) {
		b.set(key, i)
	}
	for _, key := range anyKeys(4) {
		b.delete(key)
		b.sizes(4, 0, 0)
	}
	b.set("k", 1)
	b.sizes(4, 0, 0)
}

func told[V any](d *Dict[V]) (keys []string, values []V) {
	for k, v := range d.Each() {
		keys, values = append(keys, k), append(values, v)
	}
	return keys, values
}

func TestP5_4_Order(t *testing.T) {
	keys := oneIn(0, 8, 0, 1, 2, 3, 4, 5, 6, 7)
	b := settled(t, 0, 8, keys)
	if got, values := told(b.d); !slices.Equal(got, keys) || !slices.Equal(values, []int{0, 1, 2, 3, 4, 5, 6, 7}) {
		t.Fatalf("%q %v", got, values)
	}
	b.set("ninth", 9)
	b.get("none")
	b.get("none")
	b.sizes(8, 16, 2)
	want := slices.Clone(keys[2:])
	for i := range 16 {
		want = append(want, b.d.Bucket(1, i)...)
	}
	if got, _ := told(b.d); !slices.Equal(got, want) || len(want) != 9 {
		t.Fatalf("%q, not %q", got, want)
	}
	chain := keysIn(0, 4, 3, 3)
	c := newBoth(t, 0)
	for i, key := range chain {
		c.set(key, i)
	}
	if got, values := told(c.d); !slices.Equal(got, []string{chain[2], chain[1], chain[0]}) || !slices.Equal(values, []int{2, 1, 0}) {
		t.Fatalf("%q %v", got, values)
	}
}

func TestP5_4_NoKeys(t *testing.T) {
	d := New[int](0)
	each := d.Each()
	for k := range each {
		t.Errorf("%q", k)
	}
	d.Set("a", 1)
	d.Delete("a")
	for k := range each {
		t.Errorf("%q", k)
	}
	d.Set("b", 1)
	d.Clear()
	for k := range each {
		t.Errorf("%q", k)
	}
}

func TestP5_4_LeftEarlyAndTwice(t *testing.T) {
	for n := range 24 { // some of them while it is moving
		b := newBoth(t, 7)
		for i, key := range anyKeys(n) {
			b.set(key, i)
		}
		all, _ := told(b.d)
		each := b.d.Each()
		for stop := range n {
			var got []string
			for k := range each {
				got = append(got, k)
				if len(got) == stop+1 {
					break
				}
			}
			if !slices.Equal(got, all[:stop+1]) {
				t.Fatalf("%q, not %q", got, all[:stop+1])
			}
		}
		for range 2 {
			var got []string
			for k := range each {
				got = append(got, k)
			}
			if !slices.Equal(got, all) {
				t.Fatalf("%q, not %q", got, all)
			}
		}
		hold(t, b.d, b.m)
	}
}

func TestP5_4_ChangedMeanwhile(t *testing.T) {
	changes := map[string]func(d *Dict[int], told string, i int){
		"deleted":   func(d *Dict[int], told string, i int) { d.Delete(told) },
		"set anew":  func(d *Dict[int], told string, i int) { d.Set(told, -1) },
		"new ones":  func(d *Dict[int], told string, i int) { d.Set("new"+strconv.Itoa(i), -1) },
		"asked for": func(d *Dict[int], told string, i int) { d.Get(told) },
		"cleared":   func(d *Dict[int], told string, i int) { d.Clear() },
		"all anew": func(d *Dict[int], told string, i int) {
			for _, key := range anyKeys(40) {
				d.Set(key, -2)
			}
		},
		"all deleted": func(d *Dict[int], told string, i int) {
			for _, key := range anyKeys(40) {
				d.Delete(key)
			}
		},
		"ranged over": func(d *Dict[int], key string, i int) {
			if keys, _ := told(d); len(keys) != d.Len() {
				panic("within")
			}
		},
	}
	for name, change := range changes {
		for n := range 40 {
			d := New[int](11)
			for i, key := range anyKeys(n) {
				d.Set(key, i)
			}
			keys, values := told(d)
			i := 0
			for k, v := range d.Each() {
				if i >= n || k != keys[i] || v != values[i] {
					t.Fatalf("%s, of %d: %q with %d as number %d", name, n, k, v, i)
				}
				change(d, k, i)
				i++
			}
			if i != n {
				t.Fatalf("%s: %d of %d", name, i, n)
			}
		}
	}
}

// TestP5_4_WhenTheRangingBegins: not when Each was called.
func TestP5_4_WhenTheRangingBegins(t *testing.T) {
	d := New[int](0)
	d.Set("a", 1)
	each := d.Each()
	d.Set("a", 2)
	d.Set("b", 3)
	if got := maps.Collect(each); !maps.Equal(got, map[string]int{"a": 2, "b": 3}) {
		t.Error(got)
	}
	d.Clear()
	d.Set("c", 4)
	if got := maps.Collect(each); !maps.Equal(got, map[string]int{"c": 4}) {
		t.Error(got)
	}
}

func TestP5_5_NoKeysAndOne(t *testing.T) {
	numbers := []uint64{0, 1, 2, 3, 4, 5, 100, math.MaxUint32, math.MaxUint64}
	none := func(d *Dict[int]) {
		t.Helper()
		for _, r := range numbers {
			if k, ok := d.Sample(r); k != "" || ok {
				t.Errorf("Sample(%d): %q %v", r, k, ok)
			}
		}
	}
	d := New[int](0)
	none(d)
	for _, key := range anyKeys(12) {
		d.Set(key, 1)
		for _, r := range numbers {
			if k, ok := d.Sample(r); k != key || !ok {
				t.Errorf("Sample(%d): %q %v, not %q", r, k, ok, key)
			}
		}
		d.Delete(key)
		none(d) // it has buckets, and no key
	}
	d.Clear()
	none(d)
}

func TestP5_5_TheNextThatIsNotEmpty(t *testing.T) {
	keys := oneIn(0, 4, 1, 2)
	b := newBoth(t, 0)
	b.set(keys[0], 1)
	b.set(keys[1], 2)
	for r, want := range []string{keys[0], keys[0], keys[1], keys[0], keys[0], keys[0], keys[1], keys[0]} {
		if got, ok := b.d.Sample(uint64(r)); got != want || !ok {
			t.Errorf("Sample(%d): %q %v, not %q", r, got, ok, want)
		}
	}
}

func TestP5_5_AlongTheChain(t *testing.T) {
	keys := keysIn(0, 4, 2, 3)
	b := newBoth(t, 0)
	for i, key := range keys {
		b.set(key, i)
	}
	slices.Reverse(keys)
	for r := range uint64(40) {
		if got, ok := b.d.Sample(r); got != keys[r/4%3] || !ok {
			t.Errorf("Sample(%d): %q %v, not %q", r, got, ok, keys[r/4%3])
		}
	}
	for _, r := range []uint64{math.MaxUint64, math.MaxUint64 - 4, math.MaxUint64 - 8, 1 << 63, 1<<63 - 1} {
		if got, ok := b.d.Sample(r); got != keys[r/4%3] || !ok {
			t.Errorf("Sample(%d): %q %v, not %q", r, got, ok, keys[r/4%3])
		}
	}
}

func TestP5_5_WhileItMoves(t *testing.T) {
	keys := oneIn(0, 8, 0, 1, 2, 3, 4, 5, 6, 7)
	b := settled(t, 0, 8, keys)
	b.set("ninth", 9)
	for at := range 8 {
		b.sizes(8, 16, at)
		total := uint64(8 - at + 16)
		for r := range 4 * total {
			holdSamples(t, b.d, b.m, r, math.MaxUint64-r, math.MaxUint64/total*total+r)
		}
		for i := range 8 - at {
			if got, ok := b.d.Sample(uint64(i)); got != keys[at+i] || !ok {
				t.Errorf("at %d, Sample(%d): %q %v, not %q", at, i, got, ok, keys[at+i])
			}
		}
		// The last bucket of young, and where it is empty the first one of old.
		want := keys[at]
		if last := b.d.Bucket(1, 15); len(last) != 0 {
			want = last[0]
		}
		if got, ok := b.d.Sample(total - 1); got != want || !ok {
			t.Errorf("at %d, of the last bucket: %q %v, not %q", at, got, ok, want)
		}
		b.get("none")
	}
	b.sizes(16, 0, 0)
}

func TestP5_6_NoStep(t *testing.T) {
	b, _ := shrinking(t, 0, 3, 9, 30, 40, 41, 50, 62, 63)
	for {
		old, young, at := b.d.Sizes()
		if young == 0 {
			break
		}
		for range 70 {
			b.d.Len()
			b.d.Sizes()
			b.d.Bucket(0, at)
			b.d.Bucket(1, 0)
			b.d.Sample(uint64(at))
			b.d.Each()
			told(b.d)
		}
		b.sizes(old, young, at)
		hold(t, b.d, b.m)
		b.get("none")
	}
	b.sizes(8, 0, 0)
}

func nilDict[V comparable](t *testing.T, v V) {
	t.Helper()
	var none *Dict[V]
	var zero V
	for _, key := range []string{"", "a", "ÿ"} {
		if none.Set(key, v) || none.Delete(key) || none.Len() != 0 {
			t.Errorf("%q in no dict", key)
		}
		if got, ok := none.Get(key); got != zero || ok {
			t.Error(got, ok)
		}
	}
	none.Clear()
	if a, b, c := none.Sizes(); a != 0 || b != 0 || c != 0 {
		t.Error(a, b, c)
	}
	for _, table := range []int{math.MinInt, -1, 0, 1, 2, math.MaxInt} {
		for _, i := range []int{math.MinInt, -1, 0, 1, math.MaxInt} {
			if got := none.Bucket(table, i); len(got) != 0 {
				t.Errorf("%q", got)
			}
		}
	}
	each := none.Each()
	if each == nil {
		t.Fatal("Each of no dict cannot be ranged over")
	}
	for range 2 {
		for k, v := range each {
			t.Error(k, v)
		}
	}
	for _, r := range []uint64{0, 1, math.MaxUint64} {
		if k, ok := none.Sample(r); k != "" || ok {
			t.Errorf("%q %v", k, ok)
		}
	}
}

func TestP5_6_NilDict(t *testing.T) {
	nilDict(t, 1)
	nilDict(t, "v")
	nilDict(t, struct{ a, b string }{"x", "y"})
	nilDict(t, new(int))
}

// asTable does many calls beside a map of Go's own.
func asTable[V any](t *testing.T, seed uint64, value func(i int) V, same func(a, b V) bool) {
	t.Helper()
	d := New[V](seed)
	m := map[string]V{}
	x := seed | 1
	for i := range 6000 {
		x ^= x << 13
		x ^= x >> 7
		x ^= x << 17
		key := strconv.FormatUint(x%97, 2)
		want, there := m[key]
		switch act := x >> 32 % 16; {
		case x>>40%1024 == 0:
			d.Clear()
			clear(m)
		case act < 4:
			if v, ok := d.Get(key); ok != there || !same(v, want) {
				t.Fatal("Get", seed, i, v, ok)
			}
		case (act < 13) == (i/700%2 == 0):
			m[key] = value(i)
			if d.Set(key, m[key]) == there {
				t.Fatal("Set", seed, i)
			}
		default:
			delete(m, key)
			if d.Delete(key) != there {
				t.Fatal("Delete", seed, i)
			}
		}
		if d.Len() != len(m) {
			t.Fatal("Len", seed, i, d.Len(), len(m))
		}
		seen := map[string]bool{}
		for k, v := range d.Each() {
			if want, ok := m[k]; !ok || seen[k] || !same(v, want) {
				t.Fatal("Each", seed, i, k, v)
			}
			seen[k] = true
		}
		if len(seen) != len(m) {
			t.Fatal("Each", seed, i, len(seen), len(m))
		}
	}
}

func equal[V comparable](a, b V) bool { return a == b }

func TestP5_7_KindsOfValues(t *testing.T) {
	type pair struct {
		a string
		b [2]float64
	}
	for _, seed := range []uint64{0, 1, 0x9E3779B97F4A7C15, math.MaxUint64} {
		asTable(t, seed, func(i int) int { return i }, equal)
		asTable(t, seed, strconv.Itoa, equal)
		asTable(t, seed, func(i int) pair { return pair{strconv.Itoa(i), [2]float64{float64(i), -1}} }, equal)
		asTable(t, seed, func(i int) *int { return &i }, equal)
		asTable(t, seed, func(i int) []int { return make([]int, i%5, 9) }, slices.Equal)
		asTable(t, seed, func(i int) any { return i % 3 }, equal)
		asTable(t, seed, func(i int) struct{} { return struct{}{} }, equal)
	}
}

// TestP5_7_TwoSeeds: they tell the same, and lie otherwise.
func TestP5_7_TwoSeeds(t *testing.T) {
	a, b := newBoth(t, 1), newBoth(t, 2)
	apart := false
	for i, key := range anyKeys(60) {
		a.set(key, i)
		b.set(key, i)
		x, _ := told(a.d)
		y, _ := told(b.d)
		apart = apart || !slices.Equal(x, y)
		slices.Sort(x)
		slices.Sort(y)
		if !slices.Equal(x, y) {
			t.Fatalf("%q and %q", x, y)
		}
	}
	if !apart {
		t.Error("two seeds lie alike")
	}
	for i, key := range anyKeys(60) {
		v, ok := a.d.Get(key)
		w, wok := b.d.Get(key)
		if v != w || ok != wok || v != i {
			t.Error(key, v, w)
		}
		if a.d.Delete(key) != b.d.Delete(key) || a.d.Len() != b.d.Len() {
			t.Error(key)
		}
	}
}

// TestP5_7_AValueThatWasHandedOut is what it was, whatever comes behind it.
func TestP5_7_AValueThatWasHandedOut(t *testing.T) {
	d := New[[2]int](0)
	d.Set("a", [2]int{1, 2})
	v, _ := d.Get("a")
	v[0] = 99
	for _, w := range d.Each() {
		w[1] = 98
	}
	if got, ok := d.Get("a"); got != [2]int{1, 2} || !ok {
		t.Error(got, ok)
	}
	d.Set("a", [2]int{3, 4})
	if v != [2]int{99, 2} {
		t.Error(v)
	}
}

func TestP5_9_ALittleAtATime(t *testing.T) {
	acts := []func(d *Dict[int], key string){
		func(d *Dict[int], key string) { d.Get(key) },
		func(d *Dict[int], key string) { d.Set(key, 1) },
		func(d *Dict[int], key string) { d.Delete(key) },
		func(d *Dict[int], key string) { d.Delete("none") },
	}
	farthest := 0
	for seed := range uint64(12) {
		b, _ := shrinking(t, seed, 0, 7, 8, 19, 20, 31, 40, 63)
		for i := range 100 {
			_, _, was := b.d.Sizes()
			acts[(i+int(seed))%len(acts)](b.d, strconv.Itoa(i))
			_, young, at := b.d.Sizes()
			if young != 8 {
				break
			}
			if at-was > 11 || at < was {
				t.Fatal(seed, was, at)
			}
			farthest = max(farthest, at-was)
		}
	}
	if farthest != 11 {
		t.Error("no call went on by eleven:", farthest)
	}
}

func TestP5_9_TheMovingEnds(t *testing.T) {
	for seed := range uint64(4) {
		for n := range 300 {
			d := New[int](seed)
			for i := range n {
				d.Set(strconv.Itoa(i), i)
			}
			for i := range n / 3 * 2 * int(seed%2) {
				d.Delete(strconv.Itoa(i))
			}
			old, young, _ := d.Sizes()
			for range old {
				d.Get("none")
			}
			if a, b, at := d.Sizes(); b != 0 || at != 0 || young != 0 && a != young {
				t.Fatal(seed, n, a, b, at)
			}
		}
	}
	// As many calls as there are buckets are needed, where none of them is empty.
	b := settled(t, 0, 8, oneIn(0, 8, 0, 1, 2, 3, 4, 5, 6, 7))
	b.set("ninth", 9)
	for at := range 8 {
		b.sizes(8, 16, at)
		b.get("none")
	}
	b.sizes(16, 0, 0)
}

func TestP5_10_WhoIsDrawn(t *testing.T) {
	draws := func(d *Dict[int]) {
		t.Helper()
		there, _ := told(d)
		old, young, at := d.Sizes()
		longest := 0
		for i := range max(old, young) {
			longest = max(longest, len(d.Bucket(0, i)), len(d.Bucket(1, i)))
		}
		drawn := map[string]int{}
		for r := range uint64(old-at+young) * uint64(longest) {
			key, ok := d.Sample(r)
			if !ok || !slices.Contains(there, key) {
				t.Fatalf("Sample(%d): %q %v", r, key, ok)
			}
			drawn[key]++
		}
		if len(drawn) != len(there) {
			t.Fatalf("%d keys were drawn of %d", len(drawn), len(there))
		}
	}
	for seed := range uint64(4) {
		d := New[int](seed)
		keys := anyKeys(70)
		for i, key := range keys {
			d.Set(key, i)
			draws(d)
		}
		for _, key := range keys {
			d.Delete(key)
			draws(d)
			d.Get("none")
			draws(d)
		}
	}
	one := New[int](1)
	for i, key := range keysIn(1, 8, 3, 5) {
		one.Set(key, i)
		draws(one)
	}
}
