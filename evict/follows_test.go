package evict

import (
	"math"
	"math/rand/v2"
	"slices"
	"strings"
	"testing"

	"pantry/api"
	"pantry/deque"
	"pantry/draw"
	"pantry/flock"
	"pantry/keyspace"
	"pantry/pool"
	"pantry/rank"
	"pantry/record"
	"pantry/value"
)

// before is what is to be seen of a space ahead of a call of Enforce.
type before struct {
	stored map[string]api.Stored
	ranks  map[string]uint64 // of those that may be evicted
	past   map[string]int
	used   int64
	left   int
}

func (b *both) look() before {
	b.forget()
	was := before{map[string]api.Stored{}, map[string]uint64{}, map[string]int{}, b.s.Used(), b.r.Left()}
	for _, e := range b.s.Stored() {
		was.stored[e.Key] = e
		switch {
		case e.Deadline > 0 && e.Deadline <= b.s.Now():
			was.past[e.Key] = 1
		case b.s.Config().Policy == api.PoLru:
			was.ranks[e.Key] = b.m.keys[e.Key].stamp
		case b.s.Config().Policy == api.PoTtl && e.Deadline > 0:
			was.ranks[e.Key] = uint64(e.Deadline)
		}
	}
	return was
}

// enforceAndFollow holds what the chapter says that follows against what is to be seen behind a call of Enforce.
func (b *both) enforceAndFollow() {
	b.t.Helper()
	was := b.look()
	n, code := b.enforce()
	steps := named(b.s.Steps())
	b.m.steps = nil
	b.followsRoom(was, n, code)
	b.followsWhoWent(was, n, steps)
	b.followsSoonest(was, n, steps)
	if drawn := n * b.s.Config().Samples; b.r.Left() != max(0, was.left-drawn) || n > len(was.stored) {
		b.t.Fatalf("%d went of %d keys: %d numbers are left of %d", n, len(was.stored), b.r.Left(), was.left)
	}
}

// followsRoom is P15.3. None goes where there was room.
func (b *both) followsRoom(was before, n int, code api.Errno) {
	b.t.Helper()
	most := b.s.Config().Most
	if n > 0 && (most == 0 || was.used <= most) {
		b.t.Fatalf("%d went, and Used was %d of %d", n, was.used, most)
	}
	full := most > 0 && b.s.Used() > most
	if code != api.OK && code != api.ErrFull || full != (code == api.ErrFull) {
		b.t.Fatalf("Enforce: %d, Used: %d of %d", code, b.s.Used(), most)
	}
	if may := len(was.ranks) - n; full && may > 0 {
		b.t.Fatalf("ErrFull, and %d keys may be evicted", may)
	}
}

// followsWhoWent is P15.4.
func (b *both) followsWhoWent(was before, n int, steps []string) {
	b.t.Helper()
	evicted, went := 0, map[string]int{}
	for _, step := range steps {
		key, isGone := strings.CutPrefix(step, gone)
		if _, may := was.ranks[key]; isGone && !may {
			b.t.Fatalf("%s: it could not be evicted", step)
		}
		if isGone {
			evicted++
		} else if key = strings.TrimPrefix(step, expired); was.past[key] == 0 {
			b.t.Fatalf("%s: it was not past", step)
		}
		went[key]++
	}
	if evicted != n {
		b.t.Fatalf("Enforce: %d, and %d went: %v", n, evicted, steps)
	}
	touched := b.s.Touched()
	clear(b.m.touched)
	if len(touched) != len(went) || len(steps) != len(went) {
		b.t.Fatalf("touched %v by %v", touched, steps)
	}
	for _, key := range touched {
		if went[key] != 1 {
			b.t.Fatalf("%q is touched by %v", key, steps)
		}
	}
	b.othersStay(was, went)
}

func (b *both) othersStay(was before, went map[string]int) {
	b.t.Helper()
	stored := b.s.Stored()
	if len(stored)+len(went) != len(was.stored) {
		b.t.Fatalf("%d keys, of %d that were there %d went", len(stored), len(was.stored), len(went))
	}
	for _, e := range stored {
		if old := was.stored[e.Key]; old.Key != e.Key || old.Deadline != e.Deadline || !samePlain(old.Value, e.Value) || went[e.Key] > 0 {
			b.t.Fatalf("%v was %v", e, old)
		}
	}
}

func samePlain(a, b api.Plain) bool {
	return a.Kind == b.Kind && a.Text == b.Text && slices.Equal(a.Items, b.Items) && slices.Equal(a.Pairs, b.Pairs) && slices.Equal(a.Ranks, b.Ranks)
}

// followsSoonest is P15.5, of the key that went last: the other candidates of that time are those of now.
func (b *both) followsSoonest(was before, n int, steps []string) {
	b.t.Helper()
	if n == 0 {
		return
	}
	key := strings.TrimPrefix(steps[len(steps)-1], gone)
	last := cand(key, was.ranks[key])
	for _, c := range b.p.Candidates() {
		rank, may := was.ranks[c.Key]
		if !may || c.Rank != rank || !sooner(last, c) {
			b.t.Fatalf("%v went ahead of the candidate %v, of the rank %d %v", last, c, rank, may)
		}
	}
}

// script does things at random.
type script struct {
	*both
	r    *rand.Rand
	keys []string
}

func (x script) key() string { return x.keys[x.r.IntN(len(x.keys))] }

// newDraws hands in few numbers or many, so that they run out now and then.
func (x script) newDraws() {
	l := make([]uint64, x.r.IntN(60))
	for i := range l {
		l[i] = x.r.Uint64() >> x.r.IntN(64)
	}
	x.draws(l...)
}

func (x script) one() {
	x.t.Helper()
	switch n := x.r.IntN(100); {
	case n < 25:
		x.put(x.key(), 1+x.r.IntN(30))
	case n < 50:
		x.limit(x.key(), x.m.clock+x.r.Int64N(12))
	case n < 55:
		x.persist(x.key())
	case n < 64:
		x.get(x.key())
	case n < 68:
		x.delete(x.key())
	case n < 75:
		x.tick(x.m.clock + x.r.Int64N(3))
	case n < 80:
		x.offer(x.key(), x.r.Uint64N(40))
	case n < 86:
		x.newDraws()
	case n < 92:
		x.round()
	case n < 94:
		x.enforce()
	default:
		x.enforceAndFollow()
	}
}

func someKeys(n int) []string {
	l := []string{"", "b", "a", "\xff", "ab", "\x00", "a\r\nb", strings.Repeat("k", 60)}
	for i := len(l); i < n; i++ {
		l = append(l, name(i))
	}
	return l[:n]
}

// TestP15_AsSpelled does things at random to spaces with few keys and with many.
func TestP15_AsSpelled(t *testing.T) {
	evicted, full := 0, 0
	for seed := range uint64(600) {
		r := rand.New(rand.NewPCG(seed, 15))
		keys := someKeys([]int{2, 4, 8, 30, 80}[seed%5])
		c := api.Config{Seed: r.Uint64(), Most: r.Int64N(90 * int64(len(keys))), Policy: r.IntN(3), Samples: 1 + r.IntN(r.IntN(16)+1)}
		x := script{newBoth(t, c, 1+r.IntN(r.IntN(16)+1)), r, keys}
		for range 150 {
			x.one()
		}
		x.enforceAndFollow()
		x.end()
		evicted += x.m.evicted
		full += x.m.fullBehindSome
	}
	if evicted < 1000 || full < 100 {
		t.Errorf("%d were evicted, and %d times some went and it was full still: the calls are not well mixed", evicted, full)
	}
}

// TestP15_ManyKeys makes room in spaces of many keys, till the dictionaries have shrunk more than once.
func TestP15_ManyKeys(t *testing.T) {
	for seed := range uint64(4) {
		for _, policy := range evicting {
			x := script{newBoth(t, api.Config{Seed: seed, Most: 1500, Policy: policy, Samples: 3}, 8), rand.New(rand.NewPCG(seed, 1515)), someKeys(260)}
			for i, key := range x.keys {
				x.put(key, 1)
				if i%3 > 0 || policy == api.PoTtl && i%50 > 0 {
					x.limit(key, 5+int64(i*i%400))
				}
				x.get(x.key())
			}
			x.newDraws()
			x.tick(8)
			x.enforceAndFollow()
			x.end()
			x.puts(x.keys[:40]...)
			x.enforceAndFollow()
			x.end()
		}
	}
}

// TestP15_EveryShortHistory does everything that can be done to three keys, one thing behind the other.
func TestP15_EveryShortHistory(t *testing.T) {
	acts := []func(b *both){
		func(b *both) { b.put("a", 40) },
		func(b *both) { b.put("b", 1) },
		func(b *both) { b.mortal("c", 1, b.m.clock+2) },
		func(b *both) { b.get("a") },
		func(b *both) { b.delete("b") },
		func(b *both) { b.limit("a", b.m.clock+1) },
		func(b *both) { b.limit("b", b.m.clock+3) },
		func(b *both) { b.persist("c") },
		func(b *both) { b.tick(b.m.clock + 1) },
		func(b *both) { b.offer("b", 0) },
		func(b *both) { b.round() },
		func(b *both) { b.enforceAndFollow() },
	}
	n := len(acts)
	for _, policy := range policies {
		for keeps := 1; keeps <= 2; keeps++ {
			for history := range n * n * n * n {
				b := newBoth(t, api.Config{Most: 120, Policy: policy, Samples: 1}, keeps)
				b.mortal("a", 10, 2)
				b.put("b", 10)
				b.draws(2, 0, 3, 1)
				for _, place := range []int{1, n, n * n, n * n * n} {
					acts[history/place%n](b)
				}
				b.enforceAndFollow()
				b.end()
			}
		}
	}
}

// While keys are put one by one, with an Enforce ahead of each, the space costs at most what it may and one key more.
func TestP15_3_RoomAheadOfEachKey(t *testing.T) {
	for _, policy := range evicting {
		b := newBoth(t, api.Config{Most: 1000, Policy: policy, Samples: 5}, api.MaxPool)
		draws := rand.New(rand.NewPCG(15, 3))
		for i := range 400 {
			b.draws(draws.Uint64(), draws.Uint64(), draws.Uint64(), draws.Uint64(), draws.Uint64())
			b.enforceAndFollow()
			if used := b.s.Used(); used > 1000 {
				t.Fatalf("Used: %d", used)
			}
			b.mortal(name(i), i%90, 1000+int64(i*31%77))
		}
		b.end()
	}
}

// Of values of all kinds those that stay are the same ones as before, and stand as before.
func TestP15_4_WhatTheOthersHold(t *testing.T) {
	for _, policy := range evicting {
		s, _ := keyspace.New(api.Config{Most: 600, Policy: policy, Samples: 16})
		p, _ := pool.New(api.MaxPool)
		values := map[string]*value.Value{}
		for i, v := range []*value.Value{value.Text("text"), list("a", "b"), pairs("f", "v"), members("m", "n"), ranked("z", 1.5)} {
			values[name(i)] = v
			s.Put(name(i), v)
			s.SetDeadline(name(i), 50+int64(i))
		}
		s.Put("first", value.Text(strings.Repeat("x", 300)))
		s.SetDeadline("first", 10)
		for key := range values {
			s.Get(key)
		}
		was, stamps := s.Stored()[1:], map[string]uint64{}
		for key := range values {
			stamps[key], _ = s.Stamp(key)
		}
		s.Touched()
		p.Offer(cand("first", 99))
		if n, code := Enforce(s, p, draw.New(upTo(16))); n != 1 || code != api.OK {
			t.Fatalf("Enforce: %d %d", n, code)
		}
		same(t, "Touched", s.Touched(), []string{"first"})
		for i, e := range s.Stored() {
			v, _ := s.Look(e.Key)
			stamp, _ := s.Stamp(e.Key)
			if e.Key != was[i].Key || e.Deadline != was[i].Deadline || !samePlain(e.Value, was[i].Value) || v != values[e.Key] || stamp != stamps[e.Key] {
				t.Errorf("%v was %v", e, was[i])
			}
		}
		if s.Len() != 5 {
			t.Errorf("%d keys", s.Len())
		}
	}
}

func list(items ...string) *value.Value {
	d := deque.New()
	for _, item := range items {
		d.Push(false, item)
	}
	return value.List(d)
}

func pairs(field, text string) *value.Value {
	r := record.New(1)
	r.Set(field, text)
	return value.Record(r)
}

func members(l ...string) *value.Value {
	f := flock.New(1)
	for _, member := range l {
		f.Add(member)
	}
	return value.Flock(f)
}

func ranked(member string, score float64) *value.Value {
	z := rank.New(1)
	z.Set(member, score)
	return value.Ranks(z)
}

// Where all keys are candidates they go just in the order of their ranks, as many as must.
func TestP15_5_InTheOrderOfTheirRanks(t *testing.T) {
	r := rand.New(rand.NewPCG(15, 5))
	for keys := 1; keys <= api.MaxPool; keys++ {
		for goes := range keys + 1 {
			for _, policy := range evicting {
				b := newBoth(t, api.Config{Most: max(1, 69*int64(keys-goes)), Policy: policy, Samples: 1}, api.MaxPool)
				var order []string
				for _, i := range r.Perm(keys) {
					order = append(order, string([]byte{'k', byte('a' + i), byte('a' + i)}))
				}
				for i, key := range order {
					b.mortal(key, 2, 1000-int64(i))
				}
				for i, key := range order {
					if policy == api.PoTtl {
						b.limit(key, 2000+int64(i))
					} else {
						b.get(key)
					}
					b.offer(key, 0)
				}
				b.forget()
				b.wantEnforce(goes, api.OK)
				var want []string
				for _, key := range order[:goes] {
					want = append(want, gone+key)
				}
				b.wantSteps(want...)
				b.end()
			}
		}
	}
}

// None goes while another candidate was not used for longer: whoever goes is the first of the candidates that a Round
// leaves in a space of the same history.
func TestP15_5_TheFirstOfTheCandidates(t *testing.T) {
	for seed := range uint64(200) {
		for _, policy := range evicting {
			var twins [2]*both
			for i := range twins {
				r := rand.New(rand.NewPCG(seed, 155))
				c := api.Config{Seed: seed, Most: 3000, Policy: policy, Samples: 1 + r.IntN(6)}
				x := script{newBoth(t, c, 1+r.IntN(8)), r, someKeys(20)}
				for _, key := range x.keys {
					x.mortal(key, 1, 100+r.Int64N(30))
				}
				for range 30 {
					x.get(x.key())
					x.limit(x.key(), 50+r.Int64N(90))
					x.round()
				}
				x.overfill("full")
				x.newDraws()
				x.forget()
				twins[i] = x.both
			}
			twins[0].round()
			first := twins[0].p.Candidates()
			twins[1].wantEnforce(1, api.OK)
			twins[1].wantSteps(gone + first[0].Key)
			twins[1].wantCandidates(first[1:]...)
			twins[0].end()
			twins[1].end()
		}
	}
}

// Each Round evicts one key, so that all go behind as many Rounds as there are keys, each with its own numbers.
func TestP15_6_ARoundForEachKey(t *testing.T) {
	for _, keys := range []int{0, 1, 2, 3, 4, 5, 6, 8, 9, 15, 16, 17, 32, 33, 50, 300} {
		for _, policy := range evicting {
			for _, samples := range []int{1, 2, 16} {
				b := newBoth(t, api.Config{Seed: 9, Most: 1, Policy: policy, Samples: samples}, 1+keys%16)
				for i := range keys {
					b.mortal(name(i), 1, 100+int64(i%7))
				}
				b.draws(upTo(keys*samples + 5)...)
				b.wantEnforce(keys, api.OK)
				b.wantLeft(5)
				b.wantUsed(0)
				b.wantCandidates()
				if b.m.rounds != keys {
					t.Fatalf("%d Rounds for %d keys", b.m.rounds, keys)
				}
				b.end()
			}
		}
	}
}

// No number, however great, is beyond what a Round can draw.
func TestP15_6_AnyNumbers(t *testing.T) {
	for _, drawn := range []uint64{0, 1, 3, 4, 1 << 31, 1 << 32, math.MaxInt64, 1 << 63, math.MaxUint64} {
		for _, policy := range evicting {
			b := newBoth(t, api.Config{Seed: math.MaxUint64, Most: 1, Policy: policy, Samples: 2}, 3)
			for i := range 7 {
				b.mortal(name(i), 1, api.MaxTime-int64(i))
			}
			b.draws(slices.Repeat([]uint64{drawn}, 14)...)
			b.wantEnforce(7, api.OK)
			b.wantLeft(0)
			b.end()
		}
	}
}
