package keyspace

import (
	"math"
	"math/rand/v2"
	"slices"
	"strconv"
	"strings"
	"testing"

	"pantry/api"
	"pantry/deque"
	"pantry/dict"
	"pantry/flock"
	"pantry/rank"
	"pantry/record"
	"pantry/scan"
	"pantry/value"
)

// spelled is the chapter, word by word: keys in a plain table, and beside it two dictionaries to which just those
// calls are done that the chapter names.
type spelled struct {
	config    api.Config
	clock     int64
	uses      uint64
	stored    map[string]*spelledKey
	main      *dict.Dict[int]
	deadlines *dict.Dict[int]
	touched   map[string]int
	steps     []api.Step
}

type spelledKey struct {
	value       *value.Value
	stamp       uint64
	hasDeadline bool
	deadline    int64
	valueCost   int64
}

func newSpelled(c api.Config) *spelled {
	return &spelled{config: c, stored: map[string]*spelledKey{}, main: dict.New[int](c.Seed), deadlines: dict.New[int](c.Seed + 1), touched: map[string]int{}}
}

func (m *spelled) past(key string) bool {
	k, ok := m.stored[key]
	return ok && k.hasDeadline && !(k.deadline > m.clock)
}

func (m *spelled) goes(key string) {
	m.main.Delete(key)
	if m.stored[key].hasDeadline {
		m.deadlines.Delete(key)
	}
	delete(m.stored, key)
}

func (m *spelled) touch(key string) { m.touched[key] = 1 }

func (m *spelled) expires(key string) {
	m.goes(key)
	m.touch(key)
	m.steps = append(m.steps, api.Step{Kind: 1, Key: key})
}

func (m *spelled) met(key string) bool {
	m.main.Get(key)
	if m.past(key) {
		m.expires(key)
	}
	_, there := m.stored[key]
	return there
}

// firstPast tells of all past keys the one with the least deadline, and of several such ones the least key.
func (m *spelled) firstPast() (string, bool) {
	first, found := "", false
	for key, k := range m.stored {
		if !m.past(key) {
			continue
		}
		if !found || k.deadline < m.stored[first].deadline || k.deadline == m.stored[first].deadline && key < first {
			first, found = key, true
		}
	}
	return first, found
}

func (m *spelled) allExpire() {
	for key, ok := m.firstPast(); ok; key, ok = m.firstPast() {
		m.expires(key)
	}
}

func (m *spelled) use(key string) {
	m.uses++
	m.stored[key].stamp = m.uses
}

func (m *spelled) tick(now int64) api.Errno {
	if now < 0 || now > 9007199254740992 {
		return api.ErrArg
	}
	if now > m.clock {
		m.clock = now
	}
	return api.OK
}

func (m *spelled) get(key string) (*value.Value, bool) {
	if !m.met(key) {
		return nil, false
	}
	m.use(key)
	return m.stored[key].value, true
}

func (m *spelled) look(key string) (*value.Value, bool) {
	if !m.met(key) {
		return nil, false
	}
	return m.stored[key].value, true
}

func (m *spelled) put(key string, v *value.Value) api.Errno {
	if v == nil {
		return api.ErrNil
	}
	if len(key) > 1048576 {
		return api.ErrLong
	}
	if v.Kind() == api.KdText && v.Cost() > 1048576 {
		return api.ErrLong
	}
	there := m.met(key)
	if v.Empty() {
		if there {
			m.goes(key)
			m.touch(key)
		}
		return api.OK
	}
	if there && m.stored[key].hasDeadline {
		m.deadlines.Delete(key)
	}
	m.main.Set(key, 0)
	m.stored[key] = &spelledKey{value: v, valueCost: v.Cost()}
	m.use(key)
	m.touch(key)
	return api.OK
}

func (m *spelled) changed(key string) bool {
	if !m.met(key) {
		return false
	}
	m.touch(key)
	if m.stored[key].value.Empty() {
		m.goes(key)
	} else {
		m.stored[key].valueCost = m.stored[key].value.Cost()
	}
	return true
}

func (m *spelled) delete(key string) bool {
	if !m.met(key) {
		return false
	}
	m.goes(key)
	m.touch(key)
	return true
}

func (m *spelled) evict(key string) bool {
	if !m.met(key) {
		return false
	}
	m.goes(key)
	m.touch(key)
	m.steps = append(m.steps, api.Step{Kind: 2, Key: key})
	return true
}

func (m *spelled) deadline(key string) (int64, bool) {
	if m.met(key) && m.stored[key].hasDeadline {
		return m.stored[key].deadline, true
	}
	return 0, false
}

func (m *spelled) setDeadline(key string, at int64) bool {
	if !m.met(key) || at > 9007199254740992 {
		return false
	}
	if at <= m.clock {
		m.goes(key)
		m.touch(key)
		return true
	}
	m.stored[key].hasDeadline, m.stored[key].deadline = true, at
	m.deadlines.Set(key, 0)
	m.touch(key)
	return true
}

func (m *spelled) persist(key string) bool {
	if !m.met(key) || !m.stored[key].hasDeadline {
		return false
	}
	m.stored[key].hasDeadline, m.stored[key].deadline = false, 0
	m.deadlines.Delete(key)
	m.touch(key)
	return true
}

func (m *spelled) sweep(most int) int {
	n := 0
	for n < most {
		key, ok := m.firstPast()
		if !ok {
			break
		}
		m.expires(key)
		n++
	}
	return n
}

func (m *spelled) stamp(key string) (uint64, bool) {
	if !m.met(key) {
		return 0, false
	}
	return m.stored[key].stamp, true
}

// rising tells all stored keys, past ones too.
func (m *spelled) rising() []string {
	var l []string
	for key := range m.stored {
		l = append(l, key)
	}
	slices.Sort(l)
	return l
}

func (m *spelled) used() int64 {
	sum := int64(0)
	for key, k := range m.stored {
		sum += 48 + int64(len(key)) + k.valueCost
		if k.hasDeadline {
			sum += 16
		}
	}
	return sum
}

func (m *spelled) all() []api.Stored {
	var l []api.Stored
	for _, key := range m.rising() {
		l = append(l, api.Stored{Key: key, Value: m.stored[key].value.Plain(), Deadline: m.stored[key].deadline})
	}
	return l
}

func (m *spelled) clear() {
	m.allExpire()
	for key := range m.stored {
		m.touch(key)
	}
	m.stored = map[string]*spelledKey{}
	m.main.Clear()
	m.deadlines.Clear()
}

func (m *spelled) forgetTouched() []string {
	var l []string
	for key := range m.touched {
		l = append(l, key)
	}
	slices.Sort(l)
	m.touched = map[string]int{}
	return l
}

func (m *spelled) forgetSteps() []api.Step {
	l := m.steps
	m.steps = nil
	return l
}

// both is a space and what the chapter says of it. Each of its calls does the same to both, compares what they
// answer, and then what is told without any change.
type both struct {
	t *testing.T
	s *Space
	m *spelled
}

func newBoth(t *testing.T, c api.Config) both {
	t.Helper()
	s, code := New(c)
	if s == nil || code != api.OK {
		t.Fatalf("New(%v): %v %d", c, s != nil, code)
	}
	b := both{t, s, newSpelled(c)}
	b.hold()
	return b
}

func (b both) hold() {
	b.t.Helper()
	if got, want := b.s.Used(), b.m.used(); got != want {
		b.t.Fatalf("Used: %d, not %d", got, want)
	}
	if got, want := b.s.Stored(), b.m.all(); !slices.EqualFunc(got, want, sameStored) {
		b.t.Fatalf("Stored: %v, not %v", got, want)
	}
	if b.s.Now() != b.m.clock || b.s.Config() != b.m.config {
		b.t.Fatalf("Now, Config: %d %v, not %d %v", b.s.Now(), b.s.Config(), b.m.clock, b.m.config)
	}
}

func sameStored(a, b api.Stored) bool {
	return a.Key == b.Key && a.Deadline == b.Deadline && samePlain(a.Value, b.Value)
}

func samePlain(a, b api.Plain) bool {
	return a.Kind == b.Kind && a.Text == b.Text && slices.Equal(a.Items, b.Items) && slices.Equal(a.Pairs, b.Pairs) && slices.Equal(a.Ranks, b.Ranks)
}

// clip tells a key so that it can be read.
func clip(s string) string {
	if len(s) > 20 {
		return strconv.Quote(s[:20]) + ".. (" + strconv.Itoa(len(s)) + " bytes)"
	}
	return strconv.Quote(s)
}

// same compares two answers to one call.
func same[A comparable](b both, call string, got, want A) {
	b.t.Helper()
	if got != want {
		b.t.Fatalf("%s: %v, not %v", call, got, want)
	}
	b.hold()
}

// same2 does so where a call answers two things.
func same2[A comparable](b both, call string, got A, ok bool, want A, wantOk bool) {
	b.t.Helper()
	if got != want || ok != wantOk {
		b.t.Fatalf("%s: %v %v, not %v %v", call, got, ok, want, wantOk)
	}
	b.hold()
}

func (b both) tick(now int64) {
	b.t.Helper()
	same(b, "Tick("+strconv.FormatInt(now, 10)+")", b.s.Tick(now), b.m.tick(now))
}

func (b both) get(key string) *value.Value {
	b.t.Helper()
	got, ok := b.s.Get(key)
	want, wantOk := b.m.get(key)
	same2(b, "Get("+clip(key)+")", got, ok, want, wantOk)
	return want
}

func (b both) look(key string) *value.Value {
	b.t.Helper()
	got, ok := b.s.Look(key)
	want, wantOk := b.m.look(key)
	same2(b, "Look("+clip(key)+")", got, ok, want, wantOk)
	return want
}

func (b both) put(key string, v *value.Value) {
	b.t.Helper()
	same(b, "Put("+clip(key)+")", b.s.Put(key, v), b.m.put(key, v))
}

func (b both) text(key, text string) {
	b.t.Helper()
	b.put(key, value.Text(text))
}

func (b both) changed(key string) {
	b.t.Helper()
	same(b, "Changed("+clip(key)+")", b.s.Changed(key), b.m.changed(key))
}

func (b both) delete(key string) {
	b.t.Helper()
	same(b, "Delete("+clip(key)+")", b.s.Delete(key), b.m.delete(key))
}

func (b both) evict(key string) {
	b.t.Helper()
	same(b, "Evict("+clip(key)+")", b.s.Evict(key), b.m.evict(key))
}

func (b both) deadline(key string) {
	b.t.Helper()
	got, ok := b.s.Deadline(key)
	want, wantOk := b.m.deadline(key)
	same2(b, "Deadline("+clip(key)+")", got, ok, want, wantOk)
}

func (b both) setDeadline(key string, at int64) {
	b.t.Helper()
	same(b, "SetDeadline("+clip(key)+", "+strconv.FormatInt(at, 10)+")", b.s.SetDeadline(key, at), b.m.setDeadline(key, at))
}

func (b both) persist(key string) {
	b.t.Helper()
	same(b, "Persist("+clip(key)+")", b.s.Persist(key), b.m.persist(key))
}

func (b both) sweep(most int) {
	b.t.Helper()
	same(b, "Sweep("+strconv.Itoa(most)+")", b.s.Sweep(most), b.m.sweep(most))
}

func (b both) len() {
	b.t.Helper()
	b.m.allExpire()
	same(b, "Len", b.s.Len(), len(b.m.stored))
}

func (b both) keys() {
	b.t.Helper()
	b.m.allExpire()
	if got, want := b.s.Keys(), b.m.rising(); !slices.Equal(got, want) {
		b.t.Fatalf("Keys: %q, not %q", got, want)
	}
	b.hold()
}

func (b both) sample(all bool, r uint64) {
	b.t.Helper()
	b.m.allExpire()
	want, wantOk := b.m.deadlines.Sample(r)
	if all {
		want, wantOk = b.m.main.Sample(r)
	}
	got, ok := b.s.Sample(all, r)
	if got != want || ok != wantOk {
		b.t.Fatalf("Sample(%v, %d): %s %v, not %s %v", all, r, clip(got), ok, clip(want), wantOk)
	}
}

func (b both) scan(cursor uint64, count int) uint64 {
	b.t.Helper()
	b.m.allExpire()
	want, wantKeys := scan.Next(b.m.main, cursor, count)
	got, keys := b.s.Scan(cursor, count)
	if got != want || !slices.Equal(keys, wantKeys) {
		b.t.Fatalf("Scan(%d, %d): %d %q, not %d %q", cursor, count, got, keys, want, wantKeys)
	}
	return want
}

func (b both) stamp(key string) {
	b.t.Helper()
	got, ok := b.s.Stamp(key)
	want, wantOk := b.m.stamp(key)
	same2(b, "Stamp("+clip(key)+")", got, ok, want, wantOk)
}

func (b both) touched() {
	b.t.Helper()
	if got, want := b.s.Touched(), b.m.forgetTouched(); !slices.Equal(got, want) {
		b.t.Fatalf("Touched: %q, not %q", got, want)
	}
	b.hold()
}

func (b both) steps() {
	b.t.Helper()
	if got, want := b.s.Steps(), b.m.forgetSteps(); !slices.Equal(got, want) {
		b.t.Fatalf("Steps: %v, not %v", got, want)
	}
	b.hold()
}

func (b both) clear() {
	b.t.Helper()
	b.s.Clear()
	b.m.clear()
	b.hold()
}

// lie compares how both dictionaries lie: Sample tells it to the last chain, where enough numbers are asked.
func (b both) lie() {
	b.t.Helper()
	b.m.allExpire()
	for _, d := range []*dict.Dict[int]{b.m.main, b.m.deadlines} {
		old, young, _ := d.Sizes()
		for r := range uint64(4 * (old + young + 1)) {
			b.sample(d == b.m.main, r)
		}
		for _, r := range []uint64{1 << 20, 1 << 40, math.MaxUint64 - 1, math.MaxUint64} {
			b.sample(d == b.m.main, r)
		}
	}
	for cursor := b.scan(0, 1); cursor != 0; {
		cursor = b.scan(cursor, 1)
	}
	b.len()
	b.keys()
}

// end compares all that is left to be told.
func (b both) end() {
	b.t.Helper()
	b.touched()
	b.steps()
	b.lie()
	b.touched()
	b.steps()
	for _, key := range b.m.rising() {
		b.stamp(key)
		b.deadline(key)
		b.look(key)
	}
}

// filled makes a value of a kind with so many things in it; a text of so many bytes.
func filled(kind, n int) *value.Value {
	v := map[int]*value.Value{
		api.KdText:   value.Text(strings.Repeat("t", n)),
		api.KdList:   value.List(deque.New()),
		api.KdRecord: value.Record(record.New(5)),
		api.KdFlock:  value.Flock(flock.New(5)),
		api.KdRanks:  value.Ranks(rank.New(5)),
	}[kind]
	for i := range n {
		grow(v, strconv.Itoa(i))
	}
	return v
}

// grow lays one thing more into a value that is no text; it says whether it did.
func grow(v *value.Value, name string) bool {
	if d, ok := v.AsList(); ok {
		return d.Push(false, name) == api.OK
	}
	if r, ok := v.AsRecord(); ok {
		fresh, _ := r.Set(name, "of "+name)
		return fresh
	}
	if f, ok := v.AsFlock(); ok {
		fresh, _ := f.Add(name)
		return fresh
	}
	if z, ok := v.AsRanks(); ok {
		fresh, _ := z.Set(name, float64(len(name)))
		return fresh
	}
	return false
}

// shrink takes one thing out of a value that is no text.
func shrink(v *value.Value) {
	if d, ok := v.AsList(); ok {
		d.Pop(true)
	}
	if r, ok := v.AsRecord(); ok && r.Len() > 0 {
		r.Delete(r.Pairs()[0].Field)
	}
	if f, ok := v.AsFlock(); ok && f.Len() > 0 {
		f.Delete(f.Members()[0])
	}
	if z, ok := v.AsRanks(); ok && z.Len() > 0 {
		z.Delete(z.Range(0, 1)[0].Member)
	}
}

// script does things at random. Where wild is little many keys come, where it is much many go.
type script struct {
	both
	r    *rand.Rand
	keys []string
	wild int
}

func (x script) key() string { return x.keys[x.r.IntN(len(x.keys))] }

// at tells a deadline: mostly a little above the clock, now and then at it or below, or beyond all bounds.
func (x script) at() int64 {
	switch x.r.IntN(12) {
	case 0:
		return x.m.clock
	case 1:
		return x.m.clock - x.r.Int64N(3)
	case 2:
		return []int64{math.MinInt64, -1, 0, api.MaxTime, api.MaxTime + 1, math.MaxInt64}[x.r.IntN(6)]
	}
	return x.m.clock + 1 + x.r.Int64N(8)
}

func (x script) value() *value.Value {
	n := x.r.IntN(6)
	if x.r.IntN(100) < x.wild {
		n = 0
	}
	return filled(1+x.r.IntN(5), n)
}

// change changes a value that is stored, and says so.
func (x script) change() {
	x.t.Helper()
	key := x.key()
	v := x.look(key)
	if v == nil {
		x.changed(key)
		return
	}
	if x.r.IntN(100) < x.wild {
		for range x.r.IntN(4) {
			shrink(v)
		}
	} else {
		grow(v, x.key())
	}
	x.s.Changed(key)
	x.m.changed(key)
	x.hold()
}

func (x script) one() {
	x.t.Helper()
	switch n := x.r.IntN(100); {
	case n < 30-x.wild/4:
		x.put(x.key(), x.value())
	case n < 30:
		x.delete(x.key())
	case n < 50:
		x.setDeadline(x.key(), x.at())
	case n < 56:
		x.change()
	case n < 60:
		x.get(x.key())
	case n < 63:
		x.look(x.key())
	case n < 66:
		x.stamp(x.key())
	case n < 69:
		x.deadline(x.key())
	case n < 73:
		x.persist(x.key())
	case n < 76:
		x.evict(x.key())
	case n < 80:
		x.sweep(x.r.IntN(5) - 1)
	case n < 88:
		x.tick(x.m.clock + x.r.Int64N(4) - 1)
	default:
		x.seldom()
	}
}

func (x script) seldom() {
	x.t.Helper()
	switch x.r.IntN(14) {
	case 0:
		x.len()
	case 1:
		x.both.keys()
	case 2, 3:
		x.sample(true, x.r.Uint64())
	case 4, 5:
		x.sample(false, x.r.Uint64())
	case 6, 7:
		x.scan(x.r.Uint64N(64), x.r.IntN(6)-1)
	case 8, 9:
		x.touched()
	case 10, 11:
		x.steps()
	case 12:
		x.lie()
	default:
		if x.r.IntN(8) == 0 {
			x.clear()
		}
	}
}

// someKeys tells so many keys, odd ones among them.
func someKeys(n int) []string {
	l := []string{"", "b", "a", "\xff", "ab", "\x00", "a\r\nb", strings.Repeat("k", 300)}
	for i := len(l); i < n; i++ {
		l = append(l, "k"+strconv.Itoa(i*7919%10007))
	}
	return l[:n]
}

// TestP13_AsSpelled does things at random to spaces with few keys and with many, which come and go in turns.
func TestP13_AsSpelled(t *testing.T) {
	for seed := range uint64(120) {
		r := rand.New(rand.NewPCG(seed, 13))
		c := api.Config{Seed: seed * seed, Most: int64(seed % 3 * 100), Policy: int(seed % 3), Samples: 1 + int(seed%16)}
		if seed%5 == 0 {
			c.Seed = math.MaxUint64 - seed
		}
		x := script{newBoth(t, c), r, someKeys([]int{2, 6, 20, 60}[seed%4]), 0}
		for turn := range 4 {
			x.wild = []int{5, 70, 20, 95}[turn]
			for range 120 {
				x.one()
			}
		}
		x.end()
	}
}

// TestP13_ManyKeys lets so many keys come and go that both dictionaries grow and shrink more than once.
func TestP13_ManyKeys(t *testing.T) {
	for seed := range uint64(6) {
		x := script{newBoth(t, api.Config{Seed: seed}), rand.New(rand.NewPCG(seed, 1313)), someKeys(150), 0}
		for i, key := range x.keys {
			x.text(key, key)
			if i%3 > 0 {
				x.setDeadline(key, 5+int64(i*i%40))
			}
			x.get(x.key())
		}
		x.lie()
		for now := range int64(50) {
			x.tick(now)
			x.sweep(2)
			x.one()
			x.one()
		}
		x.lie()
		for _, key := range x.keys {
			x.delete(key)
		}
		x.end()
	}
}

// TestP13_EveryShortHistory does everything that can be done to two keys, one thing behind the other.
func TestP13_EveryShortHistory(t *testing.T) {
	acts := []func(b both){
		func(b both) { b.text("a", "one") },
		func(b both) { b.put("a", value.List(nil)) },
		func(b both) { b.text("b", "") },
		func(b both) { b.get("a") },
		func(b both) { b.look("b") },
		func(b both) { b.changed("a") },
		func(b both) { b.delete("a") },
		func(b both) { b.evict("b") },
		func(b both) { b.deadline("a") },
		func(b both) { b.setDeadline("a", b.m.clock+1) },
		func(b both) { b.setDeadline("b", b.m.clock+1) },
		func(b both) { b.setDeadline("a", b.m.clock) },
		func(b both) { b.persist("a") },
		func(b both) { b.sweep(1) },
		func(b both) { b.len() },
		func(b both) { b.tick(b.m.clock + 1) },
		func(b both) { b.touched() },
		func(b both) { b.steps() },
		func(b both) { b.clear() },
	}
	n := len(acts)
	for history := range n * n * n * n {
		b := newBoth(t, api.Config{})
		b.text("a", "x")
		b.setDeadline("a", 1)
		for _, place := range []int{1, n, n * n, n * n * n} {
			acts[history/place%n](b)
		}
		b.end()
	}
}
