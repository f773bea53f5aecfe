package evict

import (
	"slices"
	"strconv"
	"strings"
	"testing"

	"pantry/api"
	"pantry/dict"
	"pantry/draw"
	"pantry/keyspace"
	"pantry/pool"
	"pantry/value"
)

// spelled is the chapter, word by word, over plain tables: the keys of a space beside the two dictionaries, to which
// just those calls are done that chapter 13 names; the candidates of a pool in no order; the numbers that are drawn.
type spelled struct {
	config    api.Config
	clock     int64
	uses      uint64
	keys      map[string]*plainKey
	main      *dict.Dict[int]
	deadlines *dict.Dict[int]
	touched   map[string]int
	steps     []string
	keeps     int
	ranks     map[string]uint64
	draws     []uint64

	rounds, evicted, fullBehindSome int // how often so far
}

type plainKey struct {
	bytes    int // of the text that it holds
	stamp    uint64
	deadline int64 // 0: none
}

func (m *spelled) past(k *plainKey) bool { return k.deadline > 0 && k.deadline <= m.clock }

func (m *spelled) goes(key, step string) {
	m.main.Delete(key)
	if m.keys[key].deadline > 0 {
		m.deadlines.Delete(key)
	}
	delete(m.keys, key)
	m.touched[key] = 1
	if step != "" {
		m.steps = append(m.steps, step+key)
	}
}

// met tells what a key has that is there, or nil.
func (m *spelled) met(key string) *plainKey {
	m.main.Get(key)
	k := m.keys[key]
	if k == nil || !m.past(k) {
		return k
	}
	m.goes(key, expired)
	return nil
}

func (m *spelled) sweep() {
	for {
		first := ""
		var least *plainKey
		for key, k := range m.keys {
			if m.past(k) && (least == nil || k.deadline < least.deadline || k.deadline == least.deadline && key < first) {
				first, least = key, k
			}
		}
		if least == nil {
			return
		}
		m.goes(first, expired)
	}
}

func cost(key string, k *plainKey) int64 {
	if k.deadline > 0 {
		return 48 + int64(len(key)+k.bytes) + 16
	}
	return 48 + int64(len(key)+k.bytes)
}

func (m *spelled) used() int64 {
	sum := int64(0)
	for key, k := range m.keys {
		sum += cost(key, k)
	}
	return sum
}

func (m *spelled) put(key string, bytes int) {
	if k := m.met(key); k != nil && k.deadline > 0 {
		m.deadlines.Delete(key)
	}
	m.main.Set(key, 0)
	m.uses++
	m.keys[key] = &plainKey{bytes: bytes, stamp: m.uses}
	m.touched[key] = 1
}

func (m *spelled) get(key string) {
	if k := m.met(key); k != nil {
		m.uses++
		k.stamp = m.uses
	}
}

func (m *spelled) delete(key string) {
	if m.met(key) != nil {
		m.goes(key, "")
	}
}

func (m *spelled) limit(key string, at int64) {
	switch k := m.met(key); {
	case k == nil:
	case at <= m.clock:
		m.goes(key, "")
	default:
		k.deadline = at
		m.deadlines.Set(key, 0)
		m.touched[key] = 1
	}
}

func (m *spelled) persist(key string) {
	if k := m.met(key); k != nil && k.deadline > 0 {
		k.deadline = 0
		m.deadlines.Delete(key)
		m.touched[key] = 1
	}
}

// ofPolicy tells of which dictionary it samples.
func (m *spelled) ofPolicy() *dict.Dict[int] {
	if m.config.Policy == api.PoTtl {
		return m.deadlines
	}
	return m.main
}

// rank asks for a key's rank; false, if the key may not be evicted.
func (m *spelled) rank(key string) (uint64, bool) {
	k := m.met(key)
	if k == nil {
		return 0, false
	}
	if m.config.Policy == api.PoTtl {
		return uint64(k.deadline), k.deadline > 0
	}
	return k.stamp, m.config.Policy == api.PoLru
}

// anyMay goes through all keys, where the chapter asks Sample.
func (m *spelled) anyMay() bool {
	for _, k := range m.keys {
		if !m.past(k) && (m.config.Policy == api.PoLru || m.config.Policy == api.PoTtl && k.deadline > 0) {
			return true
		}
	}
	return false
}

func sooner(a, b api.Candidate) bool { return a.Rank < b.Rank || a.Rank == b.Rank && a.Key < b.Key }

func (m *spelled) candidates() []api.Candidate {
	var l []api.Candidate
	for key, rank := range m.ranks {
		l = append(l, api.Candidate{Key: key, Rank: rank})
	}
	slices.SortFunc(l, func(a, b api.Candidate) int {
		if sooner(a, b) {
			return -1
		}
		return 1
	})
	return l
}

func (m *spelled) offer(key string, rank uint64) {
	m.ranks[key] = rank
	if l := m.candidates(); len(l) > m.keeps {
		delete(m.ranks, l[m.keeps].Key)
	}
}

func (m *spelled) next() uint64 {
	if len(m.draws) == 0 {
		return 0
	}
	drawn := m.draws[0]
	m.draws = m.draws[1:]
	return drawn
}

func (m *spelled) round() {
	if m.config.Policy == api.PoNone {
		return
	}
	m.rounds++
	for _, c := range m.candidates() {
		if rank, may := m.rank(c.Key); may {
			m.ranks[c.Key] = rank
		} else {
			delete(m.ranks, c.Key)
		}
	}
	for range m.config.Samples {
		drawn := m.next()
		m.sweep()
		if key, ok := m.ofPolicy().Sample(drawn); ok {
			rank, _ := m.rank(key)
			m.offer(key, rank)
		}
	}
}

func (m *spelled) enforce() (int, api.Errno) {
	if m.config.Most == 0 || m.used() <= m.config.Most {
		return 0, api.OK
	}
	m.sweep()
	evicted := 0
	for m.used() > m.config.Most {
		if !m.anyMay() {
			m.fullBehindSome += min(evicted, 1)
			return evicted, api.ErrFull
		}
		m.round()
		first := m.candidates()[0].Key
		delete(m.ranks, first)
		m.met(first)
		m.goes(first, gone)
		m.evicted++
		evicted++
	}
	return evicted, api.OK
}

// both is a space with a pool and a source, and the chapter's words beside them, to which the same is done.
type both struct {
	t *testing.T
	s *keyspace.Space
	p *pool.Pool
	r *draw.Source
	m *spelled
}

func newBoth(t *testing.T, c api.Config, keeps int) *both {
	t.Helper()
	s, code := keyspace.New(c)
	p, poolCode := pool.New(keeps)
	if code != api.OK || poolCode != api.OK {
		t.Fatalf("New: %d of a space, %d of a pool", code, poolCode)
	}
	return &both{t, s, p, draw.New(nil), &spelled{
		config: c, keys: map[string]*plainKey{}, main: dict.New[int](c.Seed), deadlines: dict.New[int](c.Seed + 1),
		touched: map[string]int{}, keeps: keeps, ranks: map[string]uint64{},
	}}
}

// draws hands in the numbers that are drawn from now on.
func (b *both) draws(l ...uint64) {
	b.r = draw.New(l)
	b.m.draws = l
}

// meaning tells numbers by which the keys are sampled, one for each, as the dictionaries lie now.
func (b *both) meaning(keys ...string) []uint64 {
	b.t.Helper()
	var l []uint64
	for _, key := range keys {
		r := uint64(0)
		for told := ""; told != key; r++ {
			var ok bool
			if told, ok = b.m.ofPolicy().Sample(r); !ok || r > 1e6 {
				b.t.Fatalf("no number means %q", key)
			}
			if told == key {
				l = append(l, r)
			}
		}
	}
	return l
}

func (b *both) put(key string, bytes int) {
	b.t.Helper()
	if code := b.s.Put(key, value.Text(strings.Repeat("x", bytes))); code != api.OK {
		b.t.Fatalf("Put(%q): %d", key, code)
	}
	b.m.put(key, bytes)
}

// puts lets keys hold a text of one byte each, one after the other.
func (b *both) puts(keys ...string) {
	b.t.Helper()
	for _, key := range keys {
		b.put(key, 1)
	}
}

// mortal lets a key hold a text, with a deadline.
func (b *both) mortal(key string, bytes int, at int64) {
	b.t.Helper()
	b.put(key, bytes)
	b.limit(key, at)
}

// overfill lets a key hold so much that the space costs one more than it may, the past keys left away: one key must
// go, whichever it is.
func (b *both) overfill(key string) {
	b.t.Helper()
	room := b.m.config.Most - int64(48+len(key))
	for other, k := range b.m.keys {
		if !b.m.past(k) {
			room -= cost(other, k)
		}
	}
	b.put(key, int(room)+1)
}

func (b *both) get(key string) {
	b.s.Get(key)
	b.m.get(key)
}

func (b *both) delete(key string) {
	b.s.Delete(key)
	b.m.delete(key)
}

func (b *both) limit(key string, at int64) {
	b.s.SetDeadline(key, at)
	b.m.limit(key, at)
}

func (b *both) persist(key string) {
	b.s.Persist(key)
	b.m.persist(key)
}

func (b *both) tick(now int64) {
	b.s.Tick(now)
	b.m.clock = max(b.m.clock, now)
}

// offer lays a candidate into the pool by hand.
func (b *both) offer(key string, rank uint64) {
	b.p.Offer(api.Candidate{Key: key, Rank: rank})
	b.m.offer(key, rank)
}

func (b *both) round() {
	b.t.Helper()
	Round(b.s, b.p, b.r)
	b.m.round()
	b.hold()
}

func (b *both) enforce() (int, api.Errno) {
	b.t.Helper()
	n, code := Enforce(b.s, b.p, b.r)
	if wantN, wantCode := b.m.enforce(); n != wantN || code != wantCode {
		b.t.Fatalf("Enforce: %d %d, not %d %d", n, code, wantN, wantCode)
	}
	b.hold()
	return n, code
}

// hold compares all that can be seen without changing anything.
func (b *both) hold() {
	b.t.Helper()
	b.wantUsed(b.m.used())
	same(b.t, "Candidates", b.p.Candidates(), b.m.candidates())
	if b.r.Left() != len(b.m.draws) {
		b.t.Fatalf("Left: %d, not %d", b.r.Left(), len(b.m.draws))
	}
	stored := b.s.Stored()
	for _, e := range stored {
		if k := b.m.keys[e.Key]; k == nil || k.deadline != e.Deadline || k.bytes != len(e.Value.Text) {
			b.t.Fatalf("Stored: %v", e)
		}
	}
	if len(stored) != len(b.m.keys) {
		b.t.Fatalf("Stored: %d keys, not %d", len(stored), len(b.m.keys))
	}
}

// end compares what can be seen only by asking: what was touched, the steps, how the dictionaries lie, the stamps.
func (b *both) end() {
	b.t.Helper()
	b.hold()
	var touched []string
	for key := range b.m.touched {
		touched = append(touched, key)
	}
	slices.Sort(touched)
	clear(b.m.touched)
	same(b.t, "Touched", b.s.Touched(), touched)
	same(b.t, "Steps", named(b.s.Steps()), b.m.steps)
	b.m.steps = nil
	b.m.sweep()
	b.lie(true, b.m.main)
	b.lie(false, b.m.deadlines)
	for key, k := range b.m.keys {
		b.m.main.Get(key)
		if stamp, ok := b.s.Stamp(key); stamp != k.stamp || !ok {
			b.t.Fatalf("Stamp(%q): %d %v, not %d", key, stamp, ok, k.stamp)
		}
	}
	b.hold()
}

func (b *both) lie(all bool, d *dict.Dict[int]) {
	b.t.Helper()
	old, young, _ := d.Sizes()
	for r := range uint64(3*(old+young) + 1) {
		want, wantOk := d.Sample(r)
		if got, ok := b.s.Sample(all, r); got != want || ok != wantOk {
			b.t.Fatalf("Sample(%v, %d): %q %v, not %q %v", all, r, got, ok, want, wantOk)
		}
	}
}

// How steps are named in these tests: one of these, and the key.
const (
	expired = "expired "
	gone    = "evicted "
)

func named(steps []api.Step) []string {
	var l []string
	for _, step := range steps {
		switch step.Kind {
		case api.StExpired:
			l = append(l, expired+step.Key)
		case api.StEvicted:
			l = append(l, gone+step.Key)
		default:
			l = append(l, "no step: "+strconv.Itoa(step.Kind))
		}
	}
	return l
}

func same[A comparable](t *testing.T, name string, got, want []A) {
	t.Helper()
	if !slices.Equal(got, want) {
		t.Fatalf("%s: %v, not %v", name, got, want)
	}
}

func (b *both) wantUsed(want int64) {
	b.t.Helper()
	if got := b.s.Used(); got != want {
		b.t.Fatalf("Used: %d, not %d", got, want)
	}
}

func (b *both) wantEnforce(n int, code api.Errno) {
	b.t.Helper()
	if got, gotCode := b.enforce(); got != n || gotCode != code {
		b.t.Fatalf("Enforce: %d %d, not %d %d", got, gotCode, n, code)
	}
}

// wantStored names the stored keys, past ones too, and takes none away.
func (b *both) wantStored(want ...string) {
	b.t.Helper()
	var got []string
	for _, e := range b.s.Stored() {
		got = append(got, e.Key)
	}
	same(b.t, "Stored", got, want)
}

func (b *both) wantCandidates(want ...api.Candidate) {
	b.t.Helper()
	same(b.t, "Candidates", b.p.Candidates(), want)
}

func (b *both) wantLeft(want int) {
	b.t.Helper()
	if got := b.r.Left(); got != want {
		b.t.Fatalf("Left: %d, not %d", got, want)
	}
}

func (b *both) wantSteps(want ...string) {
	b.t.Helper()
	same(b.t, "Steps", named(b.s.Steps()), want)
	b.m.steps = nil
}

func (b *both) wantTouched(want ...string) {
	b.t.Helper()
	same(b.t, "Touched", b.s.Touched(), want)
	clear(b.m.touched)
}

// forget lets what was touched, and the steps, begin anew.
func (b *both) forget() {
	b.s.Touched()
	b.s.Steps()
	b.m.steps = nil
	clear(b.m.touched)
}
