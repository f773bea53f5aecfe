package scan

import (
	"maps"
	"math"
	"math/rand/v2"
	"slices"
	"strconv"
	"testing"

	"pantry/dict"
	"pantry/draw"
)

func name(i int) string { return "k" + strconv.Itoa(i) }

// lying finds so many keys that lie in a bucket, in a table of n buckets.
func lying(seed uint64, n, bucket, many int) []string {
	var l []string
	for i := 0; len(l) < many; i++ {
		if key := "key" + strconv.Itoa(i); draw.Hash(seed, key)%uint64(n) == uint64(bucket) {
			l = append(l, key)
		}
	}
	return l
}

// settle calls Get till nothing is moving any more.
func settle[V any](d *dict.Dict[V]) {
	for range 1 << 20 {
		if _, young, _ := d.Sizes(); young == 0 {
			return
		}
		d.Get("nobody")
	}
	panic("the moving does not end")
}

// full makes a dict of so many buckets with as many keys, one a bucket on the average, nothing of it moving.
func full(seed uint64, buckets int) *dict.Dict[int] {
	d := dict.New[int](seed)
	for i := range buckets {
		d.Set(name(i), i)
		settle(d)
	}
	return d
}

// growing makes one that has begun to move from so many buckets to twice as many.
func growing(seed uint64, buckets int) *dict.Dict[int] {
	d := full(seed, buckets)
	d.Set("one more", 0)
	return d
}

// shrinking makes one that has begun to move from so many buckets to fewer.
func shrinking(seed uint64, buckets int) *dict.Dict[int] {
	d := full(seed, buckets)
	for i := range buckets {
		if d.Delete(name(i)); d.Len() <= buckets/8 {
			break
		}
	}
	return d
}

// disturb does something with a dict: a few calls, or so many that it grows or shrinks, or all is cleared.
func disturb(d *dict.Dict[int], r *rand.Rand) {
	switch r.IntN(20) {
	case 0:
		d.Clear()
	case 1, 2, 3, 4:
		for range r.IntN(40) {
			d.Set(name(r.IntN(200)), 1)
		}
	case 5, 6, 7, 8:
		for range r.IntN(120) {
			d.Delete(name(r.IntN(200)))
		}
	case 9, 10, 11:
		for range r.IntN(8) {
			d.Get(name(r.IntN(200)))
		}
	case 12, 13, 14:
		d.Set(name(r.IntN(200)), 2)
	case 15, 16, 17:
		d.Delete(name(r.IntN(200)))
	}
}

// look is all that can be seen of a dict without a step.
type look struct {
	keys, old, young, at int
	buckets              [][]string
	values               map[string]int
}

func lookAt(d *dict.Dict[int]) look {
	l := look{keys: d.Len(), values: maps.Collect(d.Each())}
	l.old, l.young, l.at = d.Sizes()
	for i := range l.old {
		l.buckets = append(l.buckets, d.Bucket(0, i))
	}
	for i := range l.young {
		l.buckets = append(l.buckets, d.Bucket(1, i))
	}
	return l
}

func (l look) same(m look) bool {
	return l.keys == m.keys && l.old == m.old && l.young == m.young && l.at == m.at &&
		slices.EqualFunc(l.buckets, m.buckets, slices.Equal[[]string]) && maps.Equal(l.values, m.values)
}

func wantNext[V any](t *testing.T, d *dict.Dict[V], cursor uint64, count int, want uint64, keys ...string) {
	t.Helper()
	got, told := Next(d, cursor, count)
	if got != want || !slices.Equal(told, keys) {
		t.Errorf("Next(%d, %d): %d %q, not %d %q", cursor, count, got, told, want, keys)
	}
}

// round calls Next from the cursor 0 to the cursor 0, with a disturbance behind each call but the last. It tells how
// often each key was told, and by how many calls.
func round[V any](t *testing.T, d *dict.Dict[V], count int, between func(call int)) (map[string]int, int) {
	t.Helper()
	told := map[string]int{}
	cursor := uint64(0)
	for call := 1; call < 1<<20; call++ {
		var keys []string
		cursor, keys = Next(d, cursor, count)
		for _, key := range keys {
			told[key]++
		}
		if cursor == 0 {
			return told, call
		}
		between(call)
	}
	t.Fatal("the round does not end")
	return nil, 0
}

func nothing(int) {}

func TestP6_1_ChapterExamples(t *testing.T) {
	d := dict.New[int](5)
	for _, key := range lying(5, 4, 2, 3) {
		d.Set(key, 0)
	}
	there := d.Bucket(0, 2)
	if len(there) != 3 {
		t.Fatalf("the bucket 2 holds %q", there)
	}
	wantNext(t, d, 0, 1, 1, there...)
	wantNext(t, d, 2, 1, 1, there...)
	wantNext(t, d, 6, 1, 1, there...)

	d = growing(9, 4)
	if old, young, _ := d.Sizes(); old != 4 || young != 8 {
		t.Fatalf("it moves from %d to %d", old, young)
	}
	wantNext(t, d, 1, 1, 3, slices.Concat(d.Bucket(0, 1), d.Bucket(1, 1), d.Bucket(1, 5))...)

	wantNext(t, dict.New[int](5), 77, 5, 0)
}

func TestP6_1_NobodyToTell(t *testing.T) {
	bare := dict.New[int](5)
	bare.Set("k", 1)
	bare.Delete("k")
	if old, _, _ := bare.Sizes(); old != 4 || bare.Len() != 0 {
		t.Fatalf("%d buckets, %d keys", old, bare.Len())
	}
	cleared := full(5, 8)
	cleared.Clear()
	emptied := full(5, 64)
	for i := range 64 {
		emptied.Delete(name(i))
	}
	for _, d := range []*dict.Dict[int]{nil, dict.New[int](5), bare, cleared, emptied} {
		for _, cursor := range []uint64{0, 1, 2, 3, 4, 77, 1 << 63, math.MaxUint64} {
			for _, count := range []int{math.MinInt, -1, 0, 1, 5, math.MaxInt} {
				wantNext(t, d, cursor, count, 0)
			}
		}
	}
	wantNext[string](t, nil, 0, 1, 0)
}

// One key a bucket, under the cursors' order 0 4 2 6 1 5 3 7.
func TestP6_1_HowManyAreTold(t *testing.T) {
	d := dict.New[int](3)
	var at [8]string
	for i := range at {
		at[i] = lying(3, 8, i, 1)[0]
		d.Set(at[i], i)
		settle(d)
	}
	if old, young, _ := d.Sizes(); old != 8 || young != 0 {
		t.Fatalf("%d and %d buckets", old, young)
	}
	for _, count := range []int{math.MinInt, -7, -1, 0, 1} {
		wantNext(t, d, 0, count, 4, at[0])
		wantNext(t, d, 6, count, 1, at[6])
		wantNext(t, d, 7, count, 0, at[7])
	}
	wantNext(t, d, 0, 2, 2, at[0], at[4])
	wantNext(t, d, 4, 3, 1, at[4], at[2], at[6])
	wantNext(t, d, 0, 7, 7, at[0], at[4], at[2], at[6], at[1], at[5], at[3])
	for _, count := range []int{8, 9, 1000, math.MaxInt} {
		wantNext(t, d, 0, count, 0, at[0], at[4], at[2], at[6], at[1], at[5], at[3], at[7])
	}
	// The end is the end, also if fewer were told than asked for.
	for _, count := range []int{3, 4, math.MaxInt} {
		wantNext(t, d, 5, count, 0, at[5], at[3], at[7])
	}
	// A count that is met at the end tells the end too.
	wantNext(t, d, 3, 2, 0, at[3], at[7])
}

func TestP6_1_EmptyBucketsArePassed(t *testing.T) {
	d := dict.New[int](4)
	l := slices.Concat(lying(4, 16, 4, 1), lying(4, 16, 1, 2), lying(4, 16, 15, 1))
	for _, key := range l {
		d.Set(key, 0)
	}
	// Eight more make it grow to 16 buckets, and go again.
	for i := range 8 {
		d.Set(name(i), 0)
		settle(d)
	}
	for i := range 8 {
		d.Delete(name(i))
	}
	if old, young, _ := d.Sizes(); old != 16 || young != 0 || d.Len() != 4 {
		t.Fatalf("%d and %d buckets, %d keys", old, young, d.Len())
	}
	pair := d.Bucket(0, 1)
	wantNext(t, d, 0, 1, 12, l[0])
	wantNext(t, d, 12, 1, 9, pair...)
	wantNext(t, d, 0, 2, 9, l[0], pair[0], pair[1]) // a bucket is told whole, also if that is more than asked for
	wantNext(t, d, 9, 1, 0, l[3])
	wantNext(t, d, 0, 4, 0, l[0], pair[0], pair[1], l[3])
}

// The places of the young table that a cursor has passed are not told once more; the small table's bucket is.
func TestP6_1_InTheMiddleOfAMove(t *testing.T) {
	d := shrinking(2, 32)
	old, young, _ := d.Sizes()
	if old != 32 || young != 4 {
		t.Fatalf("it moves from %d to %d", old, young)
	}
	d.Get("nobody")
	if _, _, at := d.Sizes(); at == 0 {
		t.Fatal("nothing has moved")
	}
	// Behind 2 come 18, 10, 26, 6, 22, 14, 30; behind 10 all but the first two of them.
	for from, passed := range map[uint64][]int{2: {2, 18, 10, 26, 6, 22, 14, 30}, 10: {10, 26, 6, 22, 14, 30}, 30: {30}} {
		told := d.Bucket(1, 2)
		for _, i := range passed {
			told = append(told, d.Bucket(0, i)...)
		}
		cursor, keys := uint64(1), told
		if len(keys) == 0 { // then it goes on
			cursor, keys = spelledNext(d, 1, 1)
		}
		wantNext(t, d, from, 1, cursor, keys...)
	}
}

func TestP6_1_NothingIsChanged(t *testing.T) {
	dicts := []*dict.Dict[int]{dict.New[int](1), full(1, 4), full(1, 16), growing(1, 4), growing(1, 16), shrinking(1, 16), shrinking(1, 64)}
	half := growing(1, 32)
	for range 5 {
		half.Get("nobody")
	}
	for _, d := range append(dicts, half) {
		before := lookAt(d)
		for cursor := range uint64(70) {
			for _, count := range []int{-1, 0, 1, 3, 1000} {
				Next(d, cursor, count)
				if !before.same(lookAt(d)) {
					t.Fatalf("Next(%d, %d) changed the dict of %d, %d, %d", cursor, count, before.old, before.young, before.at)
				}
			}
		}
	}
}

func TestP6_1_ToldInMemoryOfItsOwn(t *testing.T) {
	for _, d := range []*dict.Dict[int]{full(1, 4), full(1, 16), growing(1, 16), shrinking(1, 64)} {
		before := lookAt(d)
		for _, count := range []int{1, 3, 1000} {
			cursor, first := Next(d, 0, count)
			want := slices.Clone(first)
			_, second := Next(d, 0, count)
			for i := range first {
				first[i] = "written"
			}
			_ = append(first, "behind", "it")
			if !slices.Equal(second, want) {
				t.Errorf("what was told before shows what was written: %q", second)
			}
			wantNext(t, d, 0, count, cursor, want...)
			if !before.same(lookAt(d)) {
				t.Error("the dict shows what was written")
			}
		}
	}
}

func TestP6_1_EveryKindOfValue(t *testing.T) {
	type pair struct {
		left  *int
		right []string
	}
	ints, pairs, funcs := dict.New[int](8), dict.New[pair](8), dict.New[func()](8)
	for i := range 21 {
		ints.Set(name(i), i)
		pairs.Set(name(i), pair{&i, []string{"x"}})
		funcs.Set(name(i), nil)
		for cursor := range uint64(40) {
			for _, count := range []int{1, 4, 100} {
				want, keys := Next(ints, cursor, count)
				wantNext(t, pairs, cursor, count, want, keys...)
				wantNext(t, funcs, cursor, count, want, keys...)
			}
		}
	}
}

func TestP6_2_ChapterExamples(t *testing.T) {
	for _, x := range []struct {
		cursor  uint64
		buckets int
		want    uint64
	}{
		{0, 8, 4}, {4, 8, 2}, {7, 8, 0}, {8, 8, 4}, {0, 1, 0}, {5, 0, 0}, {3, -1, 0}, {1, 4, 3}, {1, 7, 3},
	} {
		if got := After(x.cursor, x.buckets); got != x.want {
			t.Errorf("After(%d, %d): %d, not %d", x.cursor, x.buckets, got, x.want)
		}
	}
}

func TestP6_2_EveryCursorOfSmallTables(t *testing.T) {
	for _, order := range [][]uint64{
		{0},
		{0, 1},
		{0, 2, 1, 3},
		{0, 4, 2, 6, 1, 5, 3, 7},
		{0, 8, 4, 12, 2, 10, 6, 14, 1, 9, 5, 13, 3, 11, 7, 15},
	} {
		n := len(order)
		for i, cursor := range order {
			want := order[(i+1)%n]
			// All numbers of buckets up to the next power of two count as this one, and digits above do not count.
			for buckets := n; buckets < 2*n; buckets++ {
				for _, high := range []uint64{0, 1, 2, 3, 1000, 1<<59 - 1} {
					if got := After(cursor+high*uint64(n), buckets); got != want {
						t.Errorf("After(%d, %d): %d, not %d", cursor+high*uint64(n), buckets, got, want)
					}
				}
			}
		}
	}
}

func TestP6_2_Ends(t *testing.T) {
	for _, x := range []struct {
		cursor  uint64
		buckets int
		want    uint64
	}{
		{math.MaxUint64, 0, 0},
		{math.MaxUint64, math.MinInt, 0},
		{math.MaxUint64, -8, 0},
		{6, -8, 0},
		{math.MaxUint64, 1, 0},
		{math.MaxUint64, 2, 0},
		{math.MaxUint64, 3, 0},
		{math.MaxUint64 - 1, 2, 1},
		{math.MaxUint64 - 1, 16, 1},
		{1 << 63, 2, 1},
		{1 << 63, 16, 8},
		{0, math.MaxInt, 1 << 61},
		{1 << 61, math.MaxInt, 1 << 60},
		{3 << 60, math.MaxInt, 1 << 59},
		{1 << 62, math.MaxInt, 1 << 61}, // the digit does not count
		{3 << 62, 1 << 62, 1 << 61},
		{math.MaxUint64, math.MaxInt, 0},
		{1<<62 - 1, math.MaxInt, 0},
		{1<<62 - 2, math.MaxInt, 1},
		{math.MaxUint64 - 1, 1 << 62, 1},
		{1<<61 - 1, math.MaxInt, 1<<62 - 1},
		{0, 1<<62 - 1, 1 << 60},
	} {
		if got := After(x.cursor, x.buckets); got != x.want {
			t.Errorf("After(%d, %d): %d, not %d", x.cursor, x.buckets, got, x.want)
		}
	}
}

func TestP6_2_EachCursorComesUpOnce(t *testing.T) {
	for n := 1; n <= 1<<12; n *= 2 {
		seen := make([]bool, n)
		cursor := uint64(0)
		for range n {
			if cursor >= uint64(n) || seen[cursor] {
				t.Fatalf("%d buckets: the cursor %d", n, cursor)
			}
			seen[cursor] = true
			cursor = After(cursor, n)
		}
		if cursor != 0 {
			t.Fatalf("%d buckets: behind the last one comes %d", n, cursor)
		}
	}
}

// kept tells those keys that no change of a round may take away, and lays them in.
func kept(d *dict.Dict[int], many int) []string {
	var l []string
	for i := range many {
		l = append(l, "kept"+strconv.Itoa(i))
		d.Set(l[i], i)
	}
	return l
}

func wantTold(t *testing.T, told map[string]int, keys []string) {
	t.Helper()
	for _, key := range keys {
		if told[key] == 0 {
			t.Fatalf("%s was missed", key)
		}
	}
}

// Every row of six changes, each between two calls of a round.
func TestP6_3_EveryShortRowOfChanges(t *testing.T) {
	fresh := 0
	changes := []func(d *dict.Dict[int]){
		func(d *dict.Dict[int]) {},
		func(d *dict.Dict[int]) { d.Get("nobody"); d.Get("nobody") },
		func(d *dict.Dict[int]) { // it grows, and the last of its moving may go on
			for range 14 {
				fresh++
				d.Set(name(fresh), 0)
			}
		},
		func(d *dict.Dict[int]) { // it shrinks
			for ; fresh > 0; fresh-- {
				d.Delete(name(fresh))
			}
		},
	}
	for row := range 1 << 12 {
		d := dict.New[int](uint64(row % 7))
		for i := range 30 * (row % 3) {
			d.Set("gone"+strconv.Itoa(i), i)
		}
		l := kept(d, 6)
		for i := range 30 * (row % 3) {
			d.Delete("gone" + strconv.Itoa(i))
		}
		fresh = 0
		told, _ := round(t, d, 1, func(call int) {
			if call <= 6 {
				changes[row>>(2*call-2)&3](d)
			}
		})
		wantTold(t, told, l)
	}
}

func TestP6_3_ItGrowsAllTheWhile(t *testing.T) {
	for _, many := range []int{1, 2, 5, 17} {
		for seed := range uint64(8) {
			d := dict.New[int](seed)
			l := kept(d, 40)
			fresh := 0
			told, _ := round(t, d, 2, func(int) {
				for range many {
					if fresh++; fresh < 5000 {
						d.Set(name(fresh), 0)
					}
				}
			})
			wantTold(t, told, l)
		}
	}
}

func TestP6_3_ItShrinksAllTheWhile(t *testing.T) {
	for _, many := range []int{1, 3, 20, 200} {
		for seed := range uint64(8) {
			d := dict.New[int](seed)
			l := kept(d, 5)
			for i := range 600 {
				d.Set(name(i), i)
			}
			left := 600
			told, _ := round(t, d, 1, func(int) {
				for range many {
					left--
					d.Delete(name(left))
				}
			})
			wantTold(t, told, l)
		}
	}
}

func TestP6_3_ItIsOnlyMovedMeanwhile(t *testing.T) {
	for _, moving := range []func(uint64, int) *dict.Dict[int]{growing, shrinking} {
		for _, buckets := range []int{8, 16, 32, 64} {
			for gets := range 4 {
				d := moving(uint64(buckets), buckets)
				l := slices.Collect(maps.Keys(maps.Collect(d.Each())))
				told, _ := round(t, d, 1, func(int) {
					for range gets {
						d.Get("nobody")
					}
				})
				wantTold(t, told, l)
			}
		}
	}
}

// Whatever is done between the calls, clearing too: those that were there all the while are told.
func TestP6_3_AtRandom(t *testing.T) {
	r := rand.New(rand.NewPCG(6, 3))
	stayed := 0
	for range 3000 {
		d := dict.New[int](r.Uint64())
		for range r.IntN(12) {
			disturb(d, r)
		}
		there := maps.Collect(d.Each())
		quiet := r.IntN(60)
		told, _ := round(t, d, r.IntN(12)-1, func(call int) {
			if call < quiet {
				disturb(d, r)
				drop(there, d)
			}
		})
		wantTold(t, told, slices.Collect(maps.Keys(there)))
		stayed += len(there)
	}
	if stayed < 1000 {
		t.Errorf("only %d keys have stayed in all rounds: too few to tell", stayed)
	}
}

// drop takes those out that are in the dict no more. One that went and came back meanwhile need not be told, but
// disturb does not do both in one call.
func drop(there map[string]int, d *dict.Dict[int]) {
	left := maps.Collect(d.Each())
	maps.DeleteFunc(there, func(key string, _ int) bool {
		_, ok := left[key]
		return !ok
	})
}

func TestP6_3_ClearedMeanwhile(t *testing.T) {
	d := full(1, 32)
	told, calls := round(t, d, 1, func(int) { d.Clear() })
	if calls != 2 || len(told) == 0 || len(told) >= 32 {
		t.Errorf("%d calls told %d keys", calls, len(told))
	}
	d = full(1, 32)
	round(t, d, 1, func(call int) {
		if call == 3 {
			d.Clear()
			d.Set("k", 1)
		}
	})
}

func TestP6_4_EachOnceIfNothingIsChanged(t *testing.T) {
	var dicts []*dict.Dict[int]
	for seed := range uint64(4) {
		for _, buckets := range []int{4, 8, 16, 64} {
			d := full(seed, buckets)
			dicts = append(dicts, d)
			for _, moving := range []func(uint64, int) *dict.Dict[int]{growing, shrinking} {
				for gets := range 6 {
					d := moving(seed, buckets)
					for range gets {
						d.Get("nobody")
					}
					dicts = append(dicts, d)
				}
			}
		}
	}
	dicts = append(dicts, full(3, 1<<12), growing(3, 1<<12), shrinking(3, 1<<12))
	for _, d := range dicts {
		old, young, at := d.Sizes()
		for _, count := range []int{-3, 0, 1, 2, 5, d.Len(), d.Len() + 1} {
			told, calls := round(t, d, count, nothing)
			if calls > old+young {
				t.Errorf("%d calls of %d and %d buckets", calls, old, young)
			}
			if len(told) != d.Len() {
				t.Errorf("%d keys told of %d (%d, %d, %d)", len(told), d.Len(), old, young, at)
			}
			for key := range d.Each() {
				if told[key] != 1 {
					t.Errorf("%s was told %d times (%d, %d, %d)", key, told[key], old, young, at)
				}
			}
		}
	}
}

func TestP6_4_NoKeysOneCall(t *testing.T) {
	d := full(1, 64)
	for i := range 64 {
		d.Delete(name(i))
	}
	for _, d := range []*dict.Dict[int]{nil, dict.New[int](1), d} {
		if told, calls := round(t, d, 1, nothing); len(told) != 0 || calls != 1 {
			t.Errorf("%d keys told by %d calls", len(told), calls)
		}
	}
}

func TestP6_5_DigitsThatDoNotCount(t *testing.T) {
	for _, d := range []*dict.Dict[int]{full(2, 4), full(2, 16), growing(2, 4), growing(2, 16), shrinking(2, 16), shrinking(2, 64)} {
		old, young, _ := d.Sizes()
		greatest := uint64(max(old, young))
		for c := range greatest {
			for _, count := range []int{0, 1, 3, 100} {
				want, keys := Next(d, c, count)
				if want >= greatest {
					t.Fatalf("%d of %d buckets is told", want, greatest)
				}
				for place := greatest; place != 0; place *= 2 {
					wantNext(t, d, c|place, count, want, keys...)
				}
				wantNext(t, d, c|-greatest, count, want, keys...)
			}
		}
	}
}

// A digit that counts in the greater table alone does count, also where it does not in the table that is old.
func TestP6_5_DigitsThatCountInOneTable(t *testing.T) {
	d := growing(2, 16)
	for range 6 {
		d.Get("nobody")
	}
	differ := false
	for c := range uint64(16) {
		_, low := Next(d, c, 1)
		_, high := Next(d, c+16, 1)
		differ = differ || !slices.Equal(low, high)
	}
	if !differ {
		t.Error("no cursor tells less with the digit 16 than without")
	}
}

func TestP6_5_AllAtOnce(t *testing.T) {
	for seed := range uint64(5) {
		for _, d := range []*dict.Dict[int]{full(seed, 4), full(seed, 32), growing(seed, 8), growing(seed, 32), shrinking(seed, 16), shrinking(seed, 128)} {
			want := slices.Sorted(maps.Keys(maps.Collect(d.Each())))
			for _, count := range []int{d.Len() + 1, 2 * d.Len(), math.MaxInt} {
				cursor, keys := Next(d, 0, count)
				if slices.Sort(keys); cursor != 0 || !slices.Equal(keys, want) {
					t.Errorf("Next(0, %d): %d %q, not 0 %q", count, cursor, keys, want)
				}
			}
		}
	}
}
