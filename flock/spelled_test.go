package flock

import (
	"math"
	"math/rand/v2"
	"slices"
	"strconv"
	"testing"

	"pantry/api"
	"pantry/dict"
	"pantry/scan"
)

// spelled is the chapter, word by word: a dictionary, to which the calls are done that the chapter names, one by
// one, so that it can be seen how the members must lie; and a plain set, to which the same is done, and which knows
// nothing of dictionaries.
type spelled struct {
	seed uint64
	lies *dict.Dict[int]
	set  map[string]int
}

func newSpelled(seed uint64) *spelled {
	return &spelled{seed: seed, lies: dict.New[int](seed), set: map[string]int{}}
}

func (m *spelled) is(member string) bool {
	_, there := m.set[member]
	return there
}

func (m *spelled) has(member string) bool {
	m.lies.Get(member)
	return m.is(member)
}

func (m *spelled) add(member string) (bool, api.Errno) {
	if len(member) > 1048576 {
		return false, api.ErrLong
	}
	m.lies.Get(member)
	if m.is(member) {
		return false, api.OK
	}
	if len(m.set) == 1048576 {
		return false, api.ErrFull
	}
	m.lies.Set(member, 1)
	m.set[member] = 1
	return true, api.OK
}

func (m *spelled) delete(member string) bool {
	m.lies.Get(member)
	if !m.is(member) {
		return false
	}
	m.lies.Delete(member)
	delete(m.set, member)
	return true
}

func (m *spelled) members() []string {
	var l []string
	for member := range m.set {
		l = append(l, member)
	}
	rise(l)
	return l
}

func rise(l []string) {
	slices.SortFunc(l, func(a, b string) int {
		switch {
		case ahead(a, b):
			return -1
		case ahead(b, a):
			return 1
		}
		return 0
	})
}

// ahead is DOC.md's order of texts: byte by byte, and a text ahead of every longer one that begins with it.
func ahead(a, b string) bool {
	for i := range len(a) {
		if i == len(b) || a[i] > b[i] {
			return false
		}
		if a[i] < b[i] {
			return true
		}
	}
	return len(a) < len(b)
}

func costOfMembers(l []string) int64 {
	sum := int64(0)
	for _, member := range l {
		sum += 24
		sum += int64(len(member))
	}
	return sum
}

func (m *spelled) copy() *spelled {
	other := newSpelled(m.seed)
	for _, member := range m.members() {
		other.add(member)
	}
	return other
}

func (m *spelled) moving() bool {
	_, young, _ := m.lies.Sizes()
	return young > 0
}

// hold compares all that can be seen of a flock, and of what it is looked at with nothing may be changed by that.
func hold(t *testing.T, f *Flock, m *spelled) {
	t.Helper()
	want := m.members()
	if got := f.Members(); !slices.Equal(got, want) {
		t.Fatalf("Members: %s, not %s", short(got), short(want))
	}
	if f.Len() != len(want) {
		t.Fatalf("Len: %d, not %d", f.Len(), len(want))
	}
	if got := f.Cost(); got != costOfMembers(want) {
		t.Fatalf("Cost: %d, not %d", got, costOfMembers(want))
	}
	for _, n := range []uint64{0, 1, uint64(len(want)), 12345, math.MaxUint64} {
		holdSample(t, f, want, n)
	}
	holdScan(t, f, m)
}

func holdSample(t *testing.T, f *Flock, members []string, n uint64) {
	t.Helper()
	want, there := "", len(members) > 0
	if there {
		want = members[n%uint64(len(members))]
	}
	if got, ok := f.Sample(n); got != want || ok != there {
		t.Fatalf("Sample(%d) of %d: %.40q %v, not %.40q %v", n, len(members), got, ok, want, there)
	}
}

// holdScan looks at how the members lie: each cursor tells the chains at which it stands.
func holdScan(t *testing.T, f *Flock, m *spelled) {
	t.Helper()
	old, young, _ := m.lies.Sizes()
	for c := range uint64(max(old, young, 1)) {
		holdNext(t, f, m, c, 1)
	}
	holdNext(t, f, m, 0, math.MaxInt)
	holdNext(t, f, m, math.MaxUint64, 3)
}

func holdNext(t *testing.T, f *Flock, m *spelled, cursor uint64, count int) {
	t.Helper()
	got, members := f.Scan(cursor, count)
	want, told := scan.Next(m.lies, cursor, count)
	if got != want || !slices.Equal(members, told) {
		old, young, at := m.lies.Sizes()
		t.Fatalf("Scan(%d, %d) of %d, %d, %d: %d %s, not %d %s", cursor, count, old, young, at, got, short(members), want, short(told))
	}
}

// short tells texts so that they can be read, also if they are long.
func short(l []string) string {
	s := strconv.Itoa(len(l)) + ":"
	for _, member := range l[:min(len(l), 30)] {
		s += " " + strconv.Quote(member[:min(len(member), 20)])
	}
	return s
}

// both is a flock and the chapter's words beside it, to which the same is done.
type both struct {
	t *testing.T
	f *Flock
	m *spelled
}

func newBoth(t *testing.T, seed uint64) both { return both{t, New(seed), newSpelled(seed)} }

func name(i int) string { return "m" + strconv.Itoa(i) }

// fill adds members m0, m1 and so on, and looks at the flock once, behind all of them.
func (b both) fill(from, to int) {
	b.t.Helper()
	for i := from; i < to; i++ {
		b.f.Add(name(i))
		b.m.add(name(i))
	}
	hold(b.t, b.f, b.m)
}

// filled has n members.
func filled(t *testing.T, seed uint64, n int) both {
	t.Helper()
	b := newBoth(t, seed)
	b.fill(0, n)
	return b
}

// growing has just begun to move from a table of so many buckets to one of twice as many.
func growing(t *testing.T, seed uint64, buckets int) both {
	t.Helper()
	b := filled(t, seed, buckets+1)
	b.sizes(buckets, 2*buckets, 0)
	return b
}

// shrinking has just begun to move from a table of so many buckets to a small one.
func shrinking(t *testing.T, seed uint64, buckets int) both {
	t.Helper()
	b := filled(t, seed, buckets)
	for i := buckets - 1; 8*i >= buckets; i-- {
		b.f.Delete(name(i))
		b.m.delete(name(i))
	}
	hold(t, b.f, b.m)
	b.sizes(buckets, max(4, buckets/8), 0)
	return b
}

// sizes says what the test means to have come to, so that it does not pass by way of some other state.
func (b both) sizes(old, young, at int) {
	b.t.Helper()
	if x, y, z := b.m.lies.Sizes(); x != old || y != young || z != at {
		b.t.Fatalf("it lies in %d, %d, %d, not in %d, %d, %d", x, y, z, old, young, at)
	}
}

func (b both) copy() both { return both{b.t, b.f.Copy(), b.m.copy()} }

func (b both) has(member string) {
	b.t.Helper()
	if got, want := b.f.Has(member), b.m.has(member); got != want {
		b.t.Fatalf("Has(%.40q): %v, not %v", member, got, want)
	}
	hold(b.t, b.f, b.m)
}

func (b both) add(member string) {
	b.t.Helper()
	got, code := b.f.Add(member)
	if want, is := b.m.add(member); got != want || code != is {
		b.t.Fatalf("Add(%.40q): %v %d, not %v %d", member, got, code, want, is)
	}
	hold(b.t, b.f, b.m)
}

func (b both) delete(member string) {
	b.t.Helper()
	if got, want := b.f.Delete(member), b.m.delete(member); got != want {
		b.t.Fatalf("Delete(%.40q): %v, not %v", member, got, want)
	}
	hold(b.t, b.f, b.m)
}

// The chapter's words on several sets; a nil one among them is as one without members.

func (m *spelled) isIn(member string) bool { return m != nil && m.is(member) }

// everybody tells who is in one of them at least.
func everybody(l []*spelled) []string {
	all := map[string]int{}
	for _, m := range l {
		if m == nil {
			continue
		}
		for member := range m.set {
			all[member] = 1
		}
	}
	var rising []string
	for member := range all {
		rising = append(rising, member)
	}
	rise(rising)
	return rising
}

func inEach(l []*spelled) []string {
	var told []string
	for _, member := range everybody(l) {
		if !slices.ContainsFunc(l, func(m *spelled) bool { return !m.isIn(member) }) {
			told = append(told, member)
		}
	}
	return told
}

func inFirstAlone(l []*spelled) []string {
	var told []string
	for _, member := range everybody(l) {
		if l[0].isIn(member) && !slices.ContainsFunc(l[1:], func(m *spelled) bool { return m.isIn(member) }) {
			told = append(told, member)
		}
	}
	return told
}

// holdSets compares the three calls on several flocks, and what is seen of each of these behind them: no step was
// done, and nothing was changed.
func holdSets(t *testing.T, l ...both) {
	t.Helper()
	var flocks []*Flock
	var sets []*spelled
	for _, b := range l {
		flocks, sets = append(flocks, b.f), append(sets, b.m)
	}
	handed := slices.Clone(flocks)
	for _, row := range []struct {
		name      string
		got, want []string
	}{
		{"Union", Union(flocks...), everybody(sets)},
		{"Inter", Inter(flocks...), inEach(sets)},
		{"Diff", Diff(flocks...), inFirstAlone(sets)},
	} {
		if !slices.Equal(row.got, row.want) {
			t.Fatalf("%s of %d: %s, not %s", row.name, len(l), short(row.got), short(row.want))
		}
	}
	if !slices.Equal(flocks, handed) {
		t.Fatal("the list that was handed in was changed")
	}
	for _, b := range l {
		if b.f != nil {
			hold(t, b.f, b.m)
		}
	}
}

// anyText is mostly short, at times empty, of any bytes, seldom as long as a text may be or one byte longer.
func anyText(r *rand.Rand) string {
	switch x := r.IntN(4000); {
	case x == 0:
		return long
	case x == 1:
		return long + "x"
	case x < 200:
		return ""
	case x < 400:
		return string([]byte{byte(r.UintN(256)), byte(r.UintN(256))})
	}
	return strconv.Itoa(r.IntN(100000))
}

// anyMember is one of so many, or seldom another text.
func anyMember(r *rand.Rand, many int) string {
	if r.IntN(20) == 0 {
		return anyText(r)
	}
	return name(r.IntN(many))
}

// TestP10_9_AnyCalls does calls at random, with tides in which members rather come and tides in which they rather go.
func TestP10_9_AnyCalls(t *testing.T) {
	for round := range 20 {
		r := rand.New(rand.NewPCG(10, uint64(round)))
		b := newBoth(t, r.Uint64())
		many := []int{4, 12, 60, 300}[round%4]
		moving := 0
		for i := range 1200 {
			coming := i/300%2 == 0
			switch x := r.IntN(1000); {
			case x < 10:
				b = b.copy()
				hold(t, b.f, b.m)
			case x < 150:
				b.has(anyMember(r, many))
			case coming == (x < 900):
				b.add(anyMember(r, many))
			default:
				b.delete(anyMember(r, many))
			}
			if b.m.moving() {
				moving++
			}
		}
		if many > 12 && moving < 20 {
			t.Errorf("round %d: only %d calls while the dictionary moves: too few to tell", round, moving)
		}
	}
}

// TestP10_9_EveryShortHistory does every row of a few calls, on flocks that move and on such as do not.
func TestP10_9_EveryShortHistory(t *testing.T) {
	acts := []func(b both){
		func(b both) { b.has(name(0)) },
		func(b both) { b.has("nobody") },
		func(b both) { b.add(name(0)) },
		func(b both) { b.add("") },
		func(b both) { b.add("new") },
		func(b both) { b.add(long + "x") },
		func(b both) { b.delete(name(0)) },
		func(b both) { b.delete("new") },
		func(b both) { b.delete("nobody") },
	}
	const calls = 3
	rows := 1
	for range calls {
		rows *= len(acts)
	}
	for _, begin := range []func() both{
		func() both { return newBoth(t, 1) },
		func() both { return filled(t, 2, 1) },
		func() both { return filled(t, 3, 4) },
		func() both { return growing(t, 4, 4) },
		func() both { return growing(t, 5, 16) },
		func() both { return shrinking(t, 6, 16) },
		func() both { return shrinking(t, 7, 32) },
	} {
		for row := range rows {
			b := begin()
			for rest, n := row, 0; n < calls; rest, n = rest/len(acts), n+1 {
				acts[rest%len(acts)](b)
			}
		}
	}
}
