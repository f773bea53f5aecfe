package record

import (
	"math"
	"math/rand/v2"
	"slices"
	"strconv"
	"strings"
	"testing"

	"pantry/api"
	"pantry/dict"
	"pantry/scan"
)

// spelled is the chapter, word by word: a dictionary, to which the calls are done that the chapter names, one by
// one, so that it can be seen how the fields must lie; and a plain table, to which the same is done, and which knows
// nothing of dictionaries.
type spelled struct {
	seed  uint64
	lies  *dict.Dict[string]
	table map[string]string
}

func newSpelled(seed uint64) *spelled {
	return &spelled{seed: seed, lies: dict.New[string](seed), table: map[string]string{}}
}

func (m *spelled) get(field string) (string, bool) {
	m.lies.Get(field)
	s, there := m.table[field]
	return s, there
}

func (m *spelled) set(field, s string) (bool, api.Errno) {
	if len(field) > 1048576 || len(s) > 1048576 {
		return false, api.ErrLong
	}
	m.lies.Get(field)
	_, there := m.table[field]
	if !there && len(m.table) == 1048576 {
		return false, api.ErrFull
	}
	m.lies.Set(field, s)
	m.table[field] = s
	return !there, api.OK
}

func (m *spelled) delete(field string) bool {
	m.lies.Get(field)
	if _, there := m.table[field]; !there {
		return false
	}
	m.lies.Delete(field)
	delete(m.table, field)
	return true
}

func (m *spelled) pairs() []api.Pair {
	var l []api.Pair
	for field, s := range m.table {
		l = append(l, api.Pair{Field: field, Value: s})
	}
	slices.SortFunc(l, func(a, b api.Pair) int {
		switch {
		case ahead(a.Field, b.Field):
			return -1
		case ahead(b.Field, a.Field):
			return 1
		}
		return 0
	})
	return l
}

// ahead is DOC.md's order of texts: byte by byte, and a text ahead of every longer one that begins with it.
func ahead(a, b string) bool {
	for i := range len(a) {
		if i == len(b) || a[i] > b[i] {
			return false
		}
		if a[i] < b[i] {
			return true
		}
	}
	return len(a) < len(b)
}

func (m *spelled) cost() int64 { return costOfPairs(m.pairs()) }

func costOfPairs(l []api.Pair) int64 {
	sum := int64(0)
	for _, p := range l {
		sum += 32
		sum += int64(len(p.Field))
		sum += int64(len(p.Value))
	}
	return sum
}

func (m *spelled) copy() *spelled {
	other := newSpelled(m.seed)
	for _, p := range m.pairs() {
		other.set(p.Field, p.Value)
	}
	return other
}

func (m *spelled) moving() bool {
	_, young, _ := m.lies.Sizes()
	return young > 0
}

// hold compares all that can be seen of a record, without a step, with what the chapter says.
func hold(t *testing.T, r *Record, m *spelled) {
	t.Helper()
	pairs := m.pairs()
	if got := r.Len(); got != len(pairs) {
		t.Fatalf("Len: %d, not %d", got, len(pairs))
	}
	if got := r.Pairs(); !slices.Equal(got, pairs) {
		t.Fatalf("Pairs: %s, not %s", short(got), short(pairs))
	}
	if got, want := r.Cost(), costOfPairs(pairs); got != want {
		t.Fatalf("Cost: %d, not %d", got, want)
	}
	n := uint64(len(pairs))
	for _, x := range []uint64{0, n / 2, n - 1, n, 7 * n / 3, math.MaxUint64} {
		holdSample(t, r, pairs, x)
	}
	holdScan(t, r, m)
}

func holdSample(t *testing.T, r *Record, pairs []api.Pair, n uint64) {
	t.Helper()
	want, some := "", len(pairs) > 0
	if some {
		want = pairs[n%uint64(len(pairs))].Field
	}
	if got, ok := r.Sample(n); got != want || ok != some {
		t.Fatalf("Sample(%d): %.40q %v, not %.40q %v", n, got, ok, want, some)
	}
}

// holdScan looks at each bucket of the greater table by a cursor of its own, so that each chain is seen, and its order.
func holdScan(t *testing.T, r *Record, m *spelled) {
	t.Helper()
	old, young, _ := m.lies.Sizes()
	for c := range uint64(max(old, young, 1)) {
		holdNext(t, r, m, c, 1)
	}
	holdNext(t, r, m, 0, math.MaxInt)
	holdNext(t, r, m, math.MaxUint64, 3)
}

func holdNext(t *testing.T, r *Record, m *spelled, cursor uint64, count int) {
	t.Helper()
	got, fields := r.Scan(cursor, count)
	want, told := scan.Next(m.lies, cursor, count)
	if got != want || !slices.Equal(fields, told) {
		old, young, at := m.lies.Sizes()
		t.Fatalf("Scan(%d, %d) of %d, %d, %d: %d %.400q, not %d %.400q", cursor, count, old, young, at, got, fields, want, told)
	}
}

// short tells pairs so that they can be read, also if their texts are long.
func short(l []api.Pair) string {
	var b strings.Builder
	for _, p := range l {
		b.WriteString(strconv.Quote(p.Field[:min(len(p.Field), 20)]) + " " + strconv.Quote(p.Value[:min(len(p.Value), 20)]) + ", ")
	}
	return b.String()
}

// both is a record and the chapter's words beside it, to which the same is done.
type both struct {
	t *testing.T
	r *Record
	m *spelled
}

func newBoth(t *testing.T, seed uint64) both { return both{t, New(seed), newSpelled(seed)} }

func name(i int) string { return "f" + strconv.Itoa(i) }

// fill sets fields f0, f1 and so on, and looks at the record once, behind all of them.
func (b both) fill(from, to int) {
	b.t.Helper()
	for i := from; i < to; i++ {
		b.r.Set(name(i), strconv.Itoa(i))
		b.m.set(name(i), strconv.Itoa(i))
	}
	hold(b.t, b.r, b.m)
}

// filled has n fields.
func filled(t *testing.T, seed uint64, n int) both {
	t.Helper()
	b := newBoth(t, seed)
	b.fill(0, n)
	return b
}

// growing has just begun to move from a table of so many buckets to one of twice as many.
func growing(t *testing.T, seed uint64, buckets int) both {
	t.Helper()
	b := filled(t, seed, buckets+1)
	b.sizes(buckets, 2*buckets, 0)
	return b
}

// shrinking has just begun to move from a table of so many buckets to a small one.
func shrinking(t *testing.T, seed uint64, buckets int) both {
	t.Helper()
	b := filled(t, seed, buckets)
	for i := buckets - 1; 8*i >= buckets; i-- {
		b.r.Delete(name(i))
		b.m.delete(name(i))
	}
	hold(t, b.r, b.m)
	b.sizes(buckets, max(4, buckets/8), 0)
	return b
}

// sizes says what the test means to have come to, so that it does not pass by way of some other state.
func (b both) sizes(old, young, at int) {
	b.t.Helper()
	if x, y, z := b.m.lies.Sizes(); x != old || y != young || z != at {
		b.t.Fatalf("it lies in %d, %d, %d, not in %d, %d, %d", x, y, z, old, young, at)
	}
}

func (b both) copy() both { return both{b.t, b.r.Copy(), b.m.copy()} }

func (b both) get(field string) {
	b.t.Helper()
	got, ok := b.r.Get(field)
	if want, there := b.m.get(field); got != want || ok != there {
		b.t.Fatalf("Get(%.40q): %.40q %v, not %.40q %v", field, got, ok, want, there)
	}
	hold(b.t, b.r, b.m)
}

func (b both) set(field, s string) {
	b.t.Helper()
	got, code := b.r.Set(field, s)
	if want, is := b.m.set(field, s); got != want || code != is {
		b.t.Fatalf("Set(%.40q, %.40q): %v %d, not %v %d", field, s, got, code, want, is)
	}
	hold(b.t, b.r, b.m)
}

func (b both) delete(field string) {
	b.t.Helper()
	if got, want := b.r.Delete(field), b.m.delete(field); got != want {
		b.t.Fatalf("Delete(%.40q): %v, not %v", field, got, want)
	}
	hold(b.t, b.r, b.m)
}

// anyText is mostly short, at times empty, of any bytes, seldom as long as a text may be or one byte longer.
func anyText(r *rand.Rand) string {
	switch x := r.IntN(4000); {
	case x == 0:
		return long
	case x == 1:
		return long + "x"
	case x < 200:
		return ""
	case x < 400:
		return string([]byte{byte(r.UintN(256)), byte(r.UintN(256))})
	}
	return strconv.Itoa(r.IntN(100000))
}

// anyField is one of so many, or seldom another text.
func anyField(r *rand.Rand, many int) string {
	if r.IntN(20) == 0 {
		return anyText(r)
	}
	return name(r.IntN(many))
}

// TestP9_8_AnyCalls does calls at random, with tides in which fields rather come and tides in which they rather go.
func TestP9_8_AnyCalls(t *testing.T) {
	for round := range 20 {
		r := rand.New(rand.NewPCG(9, uint64(round)))
		b := newBoth(t, r.Uint64())
		many := []int{4, 12, 60, 300}[round%4]
		moving := 0
		for i := range 1200 {
			coming := i/300%2 == 0
			switch x := r.IntN(1000); {
			case x < 10:
				b = b.copy()
				hold(t, b.r, b.m)
			case x < 150:
				b.get(anyField(r, many))
			case coming == (x < 900):
				b.set(anyField(r, many), anyText(r))
			default:
				b.delete(anyField(r, many))
			}
			if b.m.moving() {
				moving++
			}
		}
		if many > 12 && moving < 20 {
			t.Errorf("round %d: only %d calls while the dictionary moves: too few to tell", round, moving)
		}
	}
}

// TestP9_8_EveryShortHistory does every row of a few calls, on records that move and on such as do not.
func TestP9_8_EveryShortHistory(t *testing.T) {
	acts := []func(b both){
		func(b both) { b.get(name(0)) },
		func(b both) { b.get("nobody") },
		func(b both) { b.set(name(0), "other") },
		func(b both) { b.set("", "") },
		func(b both) { b.set("new", "x") },
		func(b both) { b.set("new", long+"x") },
		func(b both) { b.delete(name(0)) },
		func(b both) { b.delete("new") },
		func(b both) { b.delete("nobody") },
	}
	const calls = 3
	rows := 1
	for range calls {
		rows *= len(acts)
	}
	for _, begin := range []func() both{
		func() both { return newBoth(t, 1) },
		func() both { return filled(t, 2, 1) },
		func() both { return filled(t, 3, 4) },
		func() both { return growing(t, 4, 4) },
		func() both { return growing(t, 5, 16) },
		func() both { return shrinking(t, 6, 16) },
		func() both { return shrinking(t, 7, 32) },
	} {
		for row := range rows {
			b := begin()
			for rest, n := row, 0; n < calls; rest, n = rest/len(acts), n+1 {
				acts[rest%len(acts)](b)
			}
		}
	}
}
