package evict

import (
	"math"
	"slices"
	"strconv"
	"testing"

	"pantry/api"
	"pantry/draw"
	"pantry/keyspace"
	"pantry/pool"
)

// policies are all three; evicting are those by which keys go.
var (
	policies = []int{api.PoNone, api.PoLru, api.PoTtl}
	evicting = policies[1:]
)

func cand(key string, rank uint64) api.Candidate { return api.Candidate{Key: key, Rank: rank} }

func name(i int) string { return "k" + strconv.Itoa(i*7919%10007) }

func upTo(n int) []uint64 {
	var l []uint64
	for i := range n {
		l = append(l, uint64(i))
	}
	return l
}

// ofUse has a space of the policy PoLru and a great pool; ofDeadline has one of the policy PoTtl.
func ofUse(t *testing.T, most int64, samples int) *both {
	t.Helper()
	return newBoth(t, api.Config{Most: most, Policy: api.PoLru, Samples: samples}, api.MaxPool)
}

func ofDeadline(t *testing.T, most int64, samples int) *both {
	t.Helper()
	return newBoth(t, api.Config{Most: most, Policy: api.PoTtl, Samples: samples}, api.MaxPool)
}

// ripe is a space in which both calls would find all that they do: it is too full, has past keys, and keys that may
// be evicted; the pool has candidates that stand otherwise by now, and there are numbers to be drawn.
func ripe(t *testing.T, most int64, policy int) *both {
	t.Helper()
	b := newBoth(t, api.Config{Most: most, Policy: policy, Samples: 3}, 4)
	b.mortal("past", 10, 5)
	b.mortal("mortal", 20, 50)
	b.puts("a", "b")
	b.offer("a", 77)
	b.offer("mortal", 78)
	b.offer("past", 79)
	b.offer("nobody", 1)
	b.tick(7)
	b.draws(upTo(20)...)
	b.forget()
	return b
}

// asItWas says that nothing at all was done to a ripe space.
func (b *both) asItWas() {
	b.t.Helper()
	b.wantStored("a", "b", "mortal", "past")
	b.wantCandidates(cand("nobody", 1), cand("a", 77), cand("mortal", 78), cand("past", 79))
	b.wantLeft(20)
	b.wantSteps()
	b.wantTouched()
	b.end()
}

// without leaves some of the three away: those whose bit is set.
func (b *both) without(missing int) (*keyspace.Space, *pool.Pool, *draw.Source) {
	s, p, r := b.s, b.p, b.r
	if missing&1 > 0 {
		s = nil
	}
	if missing&2 > 0 {
		p = nil
	}
	if missing&4 > 0 {
		r = nil
	}
	return s, p, r
}

func TestP15_1_OneOfTheThreeIsMissing(t *testing.T) {
	for _, policy := range policies {
		for _, most := range []int64{0, 1, 1000} {
			for missing := 1; missing < 8; missing++ {
				b := ripe(t, most, policy)
				Round(b.without(missing))
				b.asItWas()
			}
		}
	}
}

func TestP15_1_PoNone(t *testing.T) {
	for _, most := range []int64{0, 1, 1000} {
		b := ripe(t, most, api.PoNone)
		Round(b.s, b.p, b.r)
		b.asItWas()
	}
}

// What a Round does hangs on neither Most nor Used: it is done also where there is room, and it evicts nobody.
func TestP15_1_RoomOrNot(t *testing.T) {
	for _, policy := range evicting {
		for _, most := range []int64{0, 1, 1000, math.MaxInt64} {
			b := ripe(t, most, policy)
			b.round()
			b.wantStored("a", "b", "mortal")
			b.wantSteps(expired + "past")
			b.wantTouched("past")
			b.wantLeft(17)
			if l := b.p.Candidates(); len(l) == 0 || slices.Contains(l, cand("nobody", 1)) {
				t.Fatalf("Candidates: %v", l)
			}
			b.end()
		}
	}
}

// Each key can be the one that is sampled, and is offered with its stamp.
func TestP15_1_SampledByUse(t *testing.T) {
	for i, key := range []string{"a", "b", "c"} {
		b := ofUse(t, 0, 1)
		b.puts("c", "a", "b")
		b.get("a")
		b.forget()
		b.draws(append(b.meaning(key), 99)...)
		b.round()
		b.wantCandidates(cand(key, []uint64{4, 3, 1}[i]))
		b.wantLeft(1)
		b.wantTouched()
		b.wantSteps()
		b.wantStored("a", "b", "c")
		b.end()
	}
}

// Each key with a deadline can be, and is offered with it; of the others none is.
func TestP15_1_SampledByDeadline(t *testing.T) {
	for i, key := range []string{"a", "b"} {
		b := ofDeadline(t, 0, 1)
		b.mortal("b", 1, 7)
		b.puts("c", "d")
		b.mortal("a", 1, 9)
		b.limit("b", 30)
		b.limit("d", 3)
		b.persist("d")
		b.forget()
		b.draws(append(b.meaning(key), 99)...)
		b.round()
		b.wantCandidates(cand(key, []uint64{9, 30}[i]))
		b.wantLeft(1)
		b.wantTouched()
		b.wantSteps()
		b.end()
	}
}

// All keys, or all that have a deadline, become candidates if every number is drawn that means one of them.
func TestP15_1_OfWhom(t *testing.T) {
	for seed := range uint64(20) {
		for _, policy := range evicting {
			b := newBoth(t, api.Config{Seed: seed, Policy: policy, Samples: 16}, api.MaxPool)
			b.puts("a", "b")
			b.mortal("c", 1, 40)
			b.mortal("d", 1, 30)
			b.draws(upTo(16)...)
			b.round()
			if policy == api.PoLru {
				b.wantCandidates(cand("a", 1), cand("b", 2), cand("c", 3), cand("d", 4))
			} else {
				b.wantCandidates(cand("d", 30), cand("c", 40))
			}
			b.end()
		}
	}
}

// Just so many numbers are drawn as Samples says, whether there are keys to be sampled or not.
func TestP15_1_HowManyAreDrawn(t *testing.T) {
	for samples := 1; samples <= api.MaxSamples; samples++ {
		for _, policy := range evicting {
			for keys := range 3 {
				b := newBoth(t, api.Config{Policy: policy, Samples: samples}, 2)
				b.puts(slices.Repeat([]string{"a"}, keys)...)
				if keys == 2 {
					b.limit("a", 9)
				}
				b.draws(upTo(40)...)
				b.round()
				b.wantLeft(40 - samples)
				b.round()
				b.wantLeft(40 - 2*samples)
				if may := keys == 2 || keys == 1 && policy == api.PoLru; may != (len(b.p.Candidates()) == 1) {
					t.Fatalf("Candidates: %v", b.p.Candidates())
				}
				b.end()
			}
		}
	}
}

// Behind the end of the list 0 is drawn, and a Round is done as any other.
func TestP15_1_RunOut(t *testing.T) {
	for _, policy := range evicting {
		for left := range 5 {
			short, long := newBoth(t, api.Config{Policy: policy, Samples: 4}, 8), newBoth(t, api.Config{Policy: policy, Samples: 4}, 8)
			list := make([]uint64, 8)
			for i := range left {
				list[i] = uint64(3*i + 1)
			}
			short.draws(list[:left]...)
			long.draws(list...)
			for _, b := range []*both{short, long} {
				for i := range 6 {
					b.mortal(name(i), i, 50-int64(i))
				}
				b.round()
				b.round()
				b.wantLeft(0)
			}
			same(t, "Candidates", short.p.Candidates(), long.p.Candidates())
			short.end()
			long.end()
		}
	}
}

// renewed is what is done to the candidates a, b and c, and how they stand behind a Round by which d is sampled.
type renewed struct {
	name string
	do   func(b *both)
	want []api.Candidate
}

func (row renewed) follow(b *both, d api.Candidate) {
	b.t.Helper()
	row.do(b)
	b.draws(b.meaning("d")...)
	b.round()
	want := append(row.want, d)
	slices.SortStableFunc(want, func(x, y api.Candidate) int { return int(x.Rank) - int(y.Rank) })
	same(b.t, row.name, b.p.Candidates(), want)
	b.end()
}

// Candidates that a former Round, or a former pool, left there, by use.
func TestP15_1_UpToDateByUse(t *testing.T) {
	for _, row := range []renewed{
		{"nothing", func(b *both) {}, []api.Candidate{cand("a", 1), cand("b", 2), cand("c", 3)}},
		{"gone", func(b *both) { b.delete("a") }, []api.Candidate{cand("b", 2), cand("c", 3)}},
		{"all gone", func(b *both) { b.delete("a"); b.delete("b"); b.delete("c") }, nil},
		{"used", func(b *both) { b.get("a") }, []api.Candidate{cand("b", 2), cand("c", 3), cand("a", 5)}},
		{"put", func(b *both) { b.puts("b") }, []api.Candidate{cand("a", 1), cand("c", 3), cand("b", 5)}},
		{"there again", func(b *both) { b.delete("a"); b.puts("a") }, []api.Candidate{cand("b", 2), cand("c", 3), cand("a", 5)}},
		{"a deadline", func(b *both) { b.limit("a", 9); b.limit("b", 9); b.persist("b") }, []api.Candidate{cand("a", 1), cand("b", 2), cand("c", 3)}},
		{"past", func(b *both) { b.limit("b", 9); b.tick(9) }, []api.Candidate{cand("a", 1), cand("c", 3)}},
		{"not past yet", func(b *both) { b.limit("b", 9); b.tick(8) }, []api.Candidate{cand("a", 1), cand("b", 2), cand("c", 3)}},
		{"past and there again", func(b *both) { b.limit("b", 9); b.tick(9); b.puts("b") }, []api.Candidate{cand("a", 1), cand("c", 3), cand("b", 5)}},
		{"never there", func(b *both) { b.offer("e", 0); b.offer("", 0) }, []api.Candidate{cand("a", 1), cand("b", 2), cand("c", 3)}},
		{"another rank", func(b *both) { b.offer("c", 0); b.offer("a", math.MaxUint64) }, []api.Candidate{cand("a", 1), cand("b", 2), cand("c", 3)}},
	} {
		b := ofUse(t, 0, 1)
		b.puts("a", "b", "c", "d")
		b.offer("a", 1)
		b.offer("b", 2)
		b.offer("c", 3)
		row.follow(b, cand("d", 4))
	}
}

// And by deadline.
func TestP15_1_UpToDateByDeadline(t *testing.T) {
	for _, row := range []renewed{
		{"nothing", func(b *both) {}, []api.Candidate{cand("a", 10), cand("b", 20), cand("c", 30)}},
		{"gone", func(b *both) { b.delete("a") }, []api.Candidate{cand("b", 20), cand("c", 30)}},
		{"all gone", func(b *both) { b.delete("a"); b.delete("b"); b.delete("c") }, nil},
		{"used", func(b *both) { b.get("a") }, []api.Candidate{cand("a", 10), cand("b", 20), cand("c", 30)}},
		{"later", func(b *both) { b.limit("a", 25) }, []api.Candidate{cand("b", 20), cand("a", 25), cand("c", 30)}},
		{"sooner", func(b *both) { b.limit("c", 15) }, []api.Candidate{cand("a", 10), cand("c", 15), cand("b", 20)}},
		{"equal", func(b *both) { b.limit("a", 30); b.limit("b", 30) }, []api.Candidate{cand("a", 30), cand("b", 30), cand("c", 30)}},
		{"without a deadline", func(b *both) { b.persist("b") }, []api.Candidate{cand("a", 10), cand("c", 30)}},
		{"all without", func(b *both) { b.persist("b"); b.persist("a"); b.persist("c") }, nil},
		{"put", func(b *both) { b.puts("b") }, []api.Candidate{cand("a", 10), cand("c", 30)}},
		{"there again", func(b *both) { b.delete("a"); b.mortal("a", 1, 35) }, []api.Candidate{cand("b", 20), cand("c", 30), cand("a", 35)}},
		{"past", func(b *both) { b.tick(20) }, []api.Candidate{cand("c", 30)}},
		{"not past yet", func(b *both) { b.tick(9) }, []api.Candidate{cand("a", 10), cand("b", 20), cand("c", 30)}},
		{"past and there again", func(b *both) { b.tick(10); b.mortal("a", 1, 21) }, []api.Candidate{cand("b", 20), cand("a", 21), cand("c", 30)}},
		{"never there", func(b *both) { b.offer("e", 0); b.offer("", 0) }, []api.Candidate{cand("a", 10), cand("b", 20), cand("c", 30)}},
		{"another rank", func(b *both) { b.offer("c", 0); b.offer("a", math.MaxUint64) }, []api.Candidate{cand("a", 10), cand("b", 20), cand("c", 30)}},
		{"never had one", func(b *both) { b.offer("e", 1); b.puts("e") }, []api.Candidate{cand("a", 10), cand("b", 20), cand("c", 30)}},
	} {
		b := ofDeadline(t, 0, 1)
		for i, key := range []string{"a", "b", "c"} {
			b.mortal(key, 1, 10*int64(i+1))
			b.offer(key, 10*uint64(i+1))
		}
		b.mortal("d", 1, 40)
		row.follow(b, cand("d", 40))
	}
}

// The candidates are asked one by one, the soonest first, as their ranks stood; so those that are past expire in that
// order, and whoever else is past behind them, when the first key is sampled.
func TestP15_1_TheSoonestIsAskedFirst(t *testing.T) {
	for _, policy := range evicting {
		b := newBoth(t, api.Config{Policy: policy, Samples: 1}, api.MaxPool)
		b.mortal("e", 1, 1)
		b.mortal("d", 1, 2)
		b.mortal("a", 1, 3)
		b.mortal("b", 1, 4)
		b.mortal("c", 1, 5)
		b.mortal("f", 1, 60)
		for i, key := range []string{"c", "f", "a", "b"} {
			b.offer(key, uint64(i))
		}
		b.tick(9)
		b.forget()
		b.round()
		b.wantSteps(expired+"c", expired+"a", expired+"b", expired+"e", expired+"d")
		b.wantTouched("a", "b", "c", "d", "e")
		b.wantStored("f")
		b.end()
	}
}

// Of equal ranks the lesser key comes sooner, and stays where there is room for one.
func TestP15_1_EqualRanks(t *testing.T) {
	for keeps := 1; keeps <= 4; keeps++ {
		for _, row := range [][]string{{"b", "a", "c"}, {"a", "b", "c"}, {"c", "b", "a"}} {
			b := newBoth(t, api.Config{Policy: api.PoTtl, Samples: 3}, keeps)
			for _, key := range row {
				b.mortal(key, 1, 9)
			}
			b.draws(b.meaning(row...)...)
			b.round()
			b.wantCandidates([]api.Candidate{cand("a", 9), cand("b", 9), cand("c", 9)}[:min(keeps, 3)]...)
			b.end()
		}
	}
}

// Deadlines up to the last one are ranks in their order.
func TestP15_1_GreatRanks(t *testing.T) {
	b := ofDeadline(t, 0, 4)
	ats := []int64{api.MaxTime, 1, api.MaxTime - 1, 1 << 32}
	for i, at := range ats {
		b.mortal(name(i), 1, at)
	}
	b.draws(b.meaning(name(0), name(1), name(2), name(3))...)
	b.round()
	b.wantCandidates(cand(name(1), 1), cand(name(3), 1<<32), cand(name(2), 1<<53-1), cand(name(0), 1<<53))
	b.end()
}

func TestP15_1_GreatStamps(t *testing.T) {
	b := ofUse(t, 0, 3)
	b.puts("a", "b", "c")
	for range 1 << 16 {
		b.get("a")
	}
	b.get("c")
	b.draws(b.meaning("a", "c", "b")...)
	b.round()
	b.wantCandidates(cand("b", 2), cand("a", 1<<16+3), cand("c", 1<<16+4))
	b.end()
}

// A pool keeps the soonest of those that it had, as they stand now, and of those that were sampled.
func TestP15_1_AFullPool(t *testing.T) {
	for keeps := 1; keeps <= 4; keeps++ {
		b := newBoth(t, api.Config{Policy: api.PoLru, Samples: 2}, keeps)
		b.puts("a", "b", "c", "d")
		b.get("a")
		b.offer("a", 1) // its rank is 5 by now, and nobody is held off by the one that it had
		b.draws(b.meaning("d", "c")...)
		b.round()
		b.wantCandidates([]api.Candidate{cand("c", 3), cand("d", 4), cand("a", 5)}[:min(keeps, 3)]...)
		b.draws(b.meaning("a", "b")...)
		b.round()
		b.wantCandidates([]api.Candidate{cand("b", 2), cand("c", 3), cand("d", 4), cand("a", 5)}[:keeps]...)
		b.end()
	}
}

// One that is dropped leaves room for a later one.
func TestP15_1_DroppedAheadOfSampling(t *testing.T) {
	b := newBoth(t, api.Config{Policy: api.PoLru, Samples: 1}, 2)
	b.puts("a", "b", "c")
	b.draws(b.meaning("a", "b")...)
	b.round()
	b.round()
	b.wantCandidates(cand("a", 1), cand("b", 2))
	b.draws(b.meaning("c")...)
	b.round()
	b.wantCandidates(cand("a", 1), cand("b", 2))
	b.delete("a")
	b.draws(b.meaning("c")...)
	b.round()
	b.wantCandidates(cand("b", 2), cand("c", 3))
	b.end()
}

// The same key may be sampled many times: it is one candidate. (Sixteen numbers mean each key of four buckets.)
func TestP15_1_MoreSamplesThanKeys(t *testing.T) {
	for keys := range 5 {
		for _, policy := range evicting {
			b := newBoth(t, api.Config{Policy: policy, Samples: 16}, api.MaxPool)
			var want []api.Candidate
			for i := range keys {
				b.mortal(name(i), 1, int64(i)+1)
				want = append(want, cand(name(i), uint64(i)+1))
			}
			b.draws(upTo(16)...)
			b.round()
			b.wantCandidates(want...)
			b.round() // with 0 drawn each time
			b.wantCandidates(want...)
			b.end()
		}
	}
}

// A pool that was used with another space holds candidates of keys that are not there, and of some that are.
func TestP15_1_APoolOfAnotherSpace(t *testing.T) {
	b, other := ofUse(t, 0, 2), ofUse(t, 0, 4)
	other.puts("x", "a", "y", "b")
	other.draws(other.meaning("x", "a", "y", "b")...)
	other.round()
	b.puts("c", "b", "a")
	for _, c := range other.p.Candidates() {
		b.offer(c.Key, c.Rank)
	}
	b.draws(b.meaning("a", "c")...)
	b.round()
	b.wantCandidates(cand("c", 1), cand("b", 2), cand("a", 3))
	other.wantCandidates(cand("x", 1), cand("a", 2), cand("y", 3), cand("b", 4))
	b.end()
	other.end()
}

// While a dictionary moves, each look at a key takes it on by a step: each candidate is looked at once, and each
// sampled key once.
func TestP15_1_OneLookAtEach(t *testing.T) {
	for seed := range uint64(4) {
		for _, policy := range evicting {
			for keys := 3; keys <= 70; keys++ {
				samples := 1 + keys%3
				b := newBoth(t, api.Config{Seed: seed, Policy: policy, Samples: samples}, 1+keys%16)
				for i := range keys {
					b.mortal(name(i), 1, 1000-int64(i))
				}
				for i := range keys % 5 {
					b.offer(name(3*i), 1)
				}
				b.draws(5, 1<<40, 77, 12345678901)
				b.round()
				b.end()
			}
		}
	}
}

func TestP15_2_ChapterExample1(t *testing.T) {
	for _, policy := range policies {
		b := newBoth(t, api.Config{Policy: policy, Samples: 1}, api.MaxPool)
		b.put("a", 60)
		b.wantEnforce(0, api.OK)
		b.put("b", 1<<20)
		b.wantEnforce(0, api.OK)
		b.wantStored("a", "b")
		b.end()
	}
	b := newBoth(t, api.Config{Most: 100, Policy: api.PoNone}, api.MaxPool)
	b.put("a", 60)
	b.wantUsed(109)
	b.wantEnforce(0, api.ErrFull)
	b.wantUsed(109)
	b.wantStored("a")
	b.wantSteps()
	b.end()
}

func TestP15_2_ChapterExample2(t *testing.T) {
	b := ofDeadline(t, 100, 1)
	b.put("a", 60)
	b.mortal("b", 1, 50)
	b.wantUsed(109 + 66)
	b.wantEnforce(1, api.ErrFull)
	b.wantUsed(109)
	b.wantStored("a")
	b.wantSteps(gone + "b")
	b.end()
}

func TestP15_2_ChapterExample3(t *testing.T) {
	for _, key := range []string{"a", "b", "c"} {
		b := ofUse(t, 120, 1)
		b.put("a", 11)
		b.put("b", 11)
		b.wantUsed(120)
		b.draws(1, 2)
		b.wantEnforce(0, api.OK)
		b.wantLeft(2)
		b.put("c", 11)
		b.wantUsed(180)
		b.draws(append(b.meaning(key), 99)...)
		b.wantEnforce(1, api.OK)
		b.wantUsed(120)
		b.wantLeft(1)
		b.wantSteps(gone + key)
		b.wantCandidates()
		b.end()
	}
}

func TestP15_2_ChapterExample4(t *testing.T) {
	for _, policy := range policies {
		b := newBoth(t, api.Config{Most: 100, Policy: policy, Samples: 1}, api.MaxPool)
		b.mortal("a", 1, 50)
		b.put("b", 11)
		b.wantUsed(66 + 60)
		b.tick(50)
		b.draws(1, 2, 3)
		b.wantEnforce(0, api.OK)
		b.wantLeft(3)
		b.wantStored("b")
		b.wantSteps(expired + "a")
		b.wantCandidates()
		b.end()
	}
}

// DOC.md's examples 5 and 6, as far as a space goes.
func TestP15_2_ExamplesOfTheWhole(t *testing.T) {
	b := newBoth(t, api.Config{Most: 100, Policy: api.PoNone}, api.MaxPool)
	b.put("k", 60)
	b.wantEnforce(0, api.ErrFull)
	b.delete("k")
	b.wantEnforce(0, api.OK)
	b = ofUse(t, 100, 5)
	b.wantEnforce(0, api.OK)
	b.put("k", 60)
	b.wantEnforce(1, api.OK)
	b.wantSteps(gone + "k")
	b.put("j", 1)
	b.wantEnforce(0, api.OK)
	b.wantStored("j")
}

// ErrNil comes ahead of all else: also where there would be nothing to do, and where there is no room.
func TestP15_2_OneOfTheThreeIsMissing(t *testing.T) {
	for _, policy := range policies {
		for _, most := range []int64{0, 1, 1000} {
			for missing := 1; missing < 8; missing++ {
				b := ripe(t, most, policy)
				if n, code := Enforce(b.without(missing)); n != 0 || code != api.ErrNil {
					t.Fatalf("Enforce: %d %d", n, code)
				}
				b.asItWas()
			}
		}
	}
}

// Where there is room, or any cost will do, nothing is done: past keys stay, and candidates as they are.
func TestP15_2_NothingIsDone(t *testing.T) {
	for _, policy := range policies {
		used := ripe(t, 0, policy).s.Used()
		for _, most := range []int64{0, used, used + 1, math.MaxInt64} {
			b := ripe(t, most, policy)
			b.wantEnforce(0, api.OK)
			b.asItWas()
		}
	}
}

// Just at Most there is room; one above it there is none.
func TestP15_2_AtMost(t *testing.T) {
	for _, policy := range evicting {
		for _, most := range []int64{1, 65, 66, 67, 131, 132, 133, 197, 198, 199} {
			b := newBoth(t, api.Config{Most: most, Policy: policy, Samples: 16}, api.MaxPool)
			for i, key := range []string{"a", "b", "c"} {
				b.mortal(key, 1, int64(i)+1)
			}
			b.wantUsed(198)
			b.draws(upTo(64)...)
			goes := 3 - int(min(most/66, 3))
			b.wantEnforce(goes, api.OK)
			b.wantStored([]string{"a", "b", "c"}[goes:]...)
			b.wantLeft(64 - 16*goes)
			b.wantEnforce(0, api.OK)
			b.wantLeft(64 - 16*goes)
			b.end()
		}
	}
}

// A space without a key costs nothing, and is never too full.
func TestP15_2_NoKey(t *testing.T) {
	for _, policy := range policies {
		for _, most := range []int64{0, 1, math.MaxInt64} {
			b := newBoth(t, api.Config{Most: most, Policy: policy, Samples: 2}, 1)
			b.offer("a", 1)
			b.draws(1, 2)
			b.wantEnforce(0, api.OK)
			b.wantCandidates(cand("a", 1))
			b.wantLeft(2)
			b.end()
		}
	}
}

// All past keys go where the space is too full, also if fewer of them would make room: by deadline, then by key. The
// candidates are not looked at then.
func TestP15_2_PastKeysGoFirst(t *testing.T) {
	for _, policy := range policies {
		b := newBoth(t, api.Config{Most: 200, Policy: policy, Samples: 1}, 2)
		b.mortal("d", 1, 4)
		b.mortal("c", 1, 3)
		b.mortal("b", 1, 4)
		b.mortal("a", 1, 9)
		b.offer("d", 1)
		b.offer("x", 2)
		b.tick(4)
		b.draws(1, 2, 3)
		b.forget()
		b.wantUsed(264)
		b.wantEnforce(0, api.OK)
		b.wantUsed(66)
		b.wantSteps(expired+"c", expired+"b", expired+"d")
		b.wantTouched("b", "c", "d")
		b.wantCandidates(cand("d", 1), cand("x", 2))
		b.wantLeft(3)
		b.end()
	}
}

// However many they are: also where the first of them would make room, and where all of them just do.
func TestP15_2_ManyPastKeys(t *testing.T) {
	for _, policy := range policies {
		for _, n := range []int{1, 2, 20, 21, 300} {
			for _, spare := range []int64{0, 1, 66*int64(n) - 1} {
				b := newBoth(t, api.Config{Most: 132 + spare, Policy: policy, Samples: 1}, 2)
				b.mortal("a", 1, 9)
				b.mortal("b", 1, 9)
				for i := range n {
					b.mortal(string([]byte{byte(i), byte(i >> 8)}), 0, 1+int64(i%8))
				}
				b.tick(8)
				b.draws(1)
				b.wantUsed(132 + 66*int64(n))
				b.wantEnforce(0, api.OK)
				b.wantStored("a", "b")
				b.wantLeft(1)
				b.end()
			}
		}
	}
}

// Past keys went, and it is too full still: others go behind them.
func TestP15_2_PastKeysAreNotEnough(t *testing.T) {
	for _, policy := range policies {
		b := newBoth(t, api.Config{Most: 100, Policy: policy, Samples: 2}, 4)
		b.mortal("past", 30, 4)
		b.mortal("a", 1, 9)
		b.mortal("b", 1, 8)
		b.offer("past", 0)
		b.tick(4)
		b.forget()
		switch policy {
		case api.PoNone:
			b.wantEnforce(0, api.ErrFull)
			b.wantSteps(expired + "past")
			b.wantCandidates(cand("past", 0))
		case api.PoLru:
			b.offer("a", 5)
			b.offer("b", 4)
			b.wantEnforce(1, api.OK)
			b.wantSteps(expired+"past", gone+"a")
			b.wantCandidates(cand("b", 3))
		case api.PoTtl:
			b.offer("a", 4)
			b.offer("b", 5)
			b.wantEnforce(1, api.OK)
			b.wantSteps(expired+"past", gone+"b")
			b.wantCandidates(cand("a", 9))
		}
		b.end()
	}
}

// Where no key may be evicted no Round is done: nothing is drawn, and the candidates stay, whatever they are.
func TestP15_2_NoneMayGo(t *testing.T) {
	for _, policy := range []int{api.PoNone, api.PoTtl} {
		b := newBoth(t, api.Config{Most: 10, Policy: policy, Samples: 3}, 4)
		b.puts("a", "b")
		b.mortal("c", 1, 5)
		b.persist("c")
		b.offer("a", 1)
		b.offer("nobody", 0)
		b.draws(1, 2, 3)
		b.forget()
		for range 2 {
			b.wantEnforce(0, api.ErrFull)
			b.wantCandidates(cand("nobody", 0), cand("a", 1))
			b.wantLeft(3)
			b.wantStored("a", "b", "c")
			b.wantSteps()
			b.wantTouched()
		}
		b.end()
	}
}

// Beside ErrFull it tells how many went, and they have gone; so have those that were past.
func TestP15_2_FullBehindSome(t *testing.T) {
	for mortal := range 6 {
		b := ofDeadline(t, 100, 4)
		b.put("stays", 200)
		b.mortal("past", 1, 2)
		want := []string{expired + "past"}
		for i := range mortal {
			b.mortal(name(i), 1, int64(10+i))
			want = append(want, gone+name(i))
		}
		b.tick(5)
		for i := range mortal {
			b.offer(name(i), 0)
		}
		b.draws(upTo(40)...)
		b.forget()
		b.wantEnforce(mortal, api.ErrFull)
		b.wantSteps(want...)
		b.wantStored("stays")
		b.wantUsed(48 + 5 + 200)
		b.wantLeft(40 - 4*mortal)
		b.wantCandidates()
		b.wantEnforce(0, api.ErrFull)
		b.wantLeft(40 - 4*mortal)
		b.wantSteps()
		b.end()
	}
}

// secondCall is what is done between two calls of Enforce, the first of which left b and c in the pool; who goes by the
// second one, by which d is sampled; and which candidates stay.
type secondCall struct {
	name  string
	do    func(b *both)
	goes  string
	stays []api.Candidate
}

func (row secondCall) follow(b *both) {
	b.t.Helper()
	b.forget()
	row.do(b)
	b.overfill("full")
	d := b.meaning("d")[0]
	b.draws(d, d, d)
	b.wantEnforce(1, api.OK)
	same(b.t, row.name, b.p.Candidates(), row.stays)
	if steps := named(b.s.Steps()); steps[len(steps)-1] != gone+row.goes {
		b.t.Fatalf("%s: %v, not %s", row.name, steps, row.goes)
	}
	b.m.steps = nil
	b.end()
}

// What a former call left in the pool stands beside the sampled one, as it stands now, by use.
func TestP15_2_CandidatesOfAFormerCallByUse(t *testing.T) {
	for _, row := range []secondCall{
		{"nothing", func(b *both) {}, "b", []api.Candidate{cand("c", 3), cand("d", 6)}},
		{"the soonest is gone", func(b *both) { b.delete("b") }, "c", []api.Candidate{cand("d", 6)}},
		{"it was used", func(b *both) { b.get("b") }, "c", []api.Candidate{cand("d", 6), cand("b", 7)}},
		{"it was put", func(b *both) { b.puts("b") }, "c", []api.Candidate{cand("d", 6), cand("b", 7)}},
		{"it is there again", func(b *both) { b.delete("b"); b.puts("b") }, "c", []api.Candidate{cand("d", 6), cand("b", 7)}},
		{"both were used", func(b *both) { b.get("c"); b.get("b") }, "d", []api.Candidate{cand("c", 7), cand("b", 8)}},
		{"all were used", func(b *both) { b.get("d"); b.get("c"); b.get("b") }, "d", []api.Candidate{cand("c", 8), cand("b", 9)}},
		{"both are gone", func(b *both) { b.delete("b"); b.delete("c") }, "d", nil},
		{"it is past", func(b *both) { b.limit("b", 5); b.tick(5) }, "c", []api.Candidate{cand("d", 6)}},
		{"it will be", func(b *both) { b.limit("b", 5); b.tick(4) }, "b", []api.Candidate{cand("c", 3), cand("d", 6)}},
		{"by hand", func(b *both) { b.offer("nobody", 0); b.offer("d", 0) }, "b", []api.Candidate{cand("c", 3), cand("d", 6)}},
	} {
		b := ofUse(t, 2000, 3)
		b.puts("a", "b", "c")
		b.overfill("fill")
		b.draws(b.meaning("a", "c", "b")...)
		b.wantEnforce(1, api.OK)
		b.wantCandidates(cand("b", 2), cand("c", 3))
		b.delete("fill")
		b.puts("d", "d")
		row.follow(b)
	}
}

// And by deadline.
func TestP15_2_CandidatesOfAFormerCallByDeadline(t *testing.T) {
	for _, row := range []secondCall{
		{"nothing", func(b *both) {}, "b", []api.Candidate{cand("c", 30), cand("d", 40)}},
		{"the soonest is gone", func(b *both) { b.delete("b") }, "c", []api.Candidate{cand("d", 40)}},
		{"it was used", func(b *both) { b.get("b") }, "b", []api.Candidate{cand("c", 30), cand("d", 40)}},
		{"it comes later", func(b *both) { b.limit("b", 35) }, "c", []api.Candidate{cand("b", 35), cand("d", 40)}},
		{"it comes last", func(b *both) { b.limit("b", 45) }, "c", []api.Candidate{cand("d", 40), cand("b", 45)}},
		{"it has no deadline any more", func(b *both) { b.persist("b") }, "c", []api.Candidate{cand("d", 40)}},
		{"it was put", func(b *both) { b.puts("b") }, "c", []api.Candidate{cand("d", 40)}},
		{"it is there again", func(b *both) { b.delete("b"); b.mortal("b", 1, 31) }, "c", []api.Candidate{cand("b", 31), cand("d", 40)}},
		{"it is there again, without", func(b *both) { b.delete("b"); b.puts("b") }, "c", []api.Candidate{cand("d", 40)}},
		{"another one comes sooner", func(b *both) { b.limit("c", 15) }, "c", []api.Candidate{cand("b", 20), cand("d", 40)}},
		{"the sampled one does", func(b *both) { b.limit("d", 15) }, "d", []api.Candidate{cand("b", 20), cand("c", 30)}},
		{"the ranks are equal", func(b *both) { b.limit("b", 50); b.limit("c", 50); b.limit("d", 50) }, "b", []api.Candidate{cand("c", 50), cand("d", 50)}},
		{"it is past", func(b *both) { b.tick(20) }, "c", []api.Candidate{cand("d", 40)}},
		{"it will be", func(b *both) { b.tick(19) }, "b", []api.Candidate{cand("c", 30), cand("d", 40)}},
		{"both are past", func(b *both) { b.tick(30) }, "d", nil},
		{"both are gone", func(b *both) { b.delete("b"); b.delete("c") }, "d", nil},
		{"by hand", func(b *both) { b.offer("nobody", 0); b.offer("d", 0) }, "b", []api.Candidate{cand("c", 30), cand("d", 40)}},
	} {
		b := ofDeadline(t, 2000, 3)
		for i, key := range []string{"a", "b", "c"} {
			b.mortal(key, 1, 10*int64(i+1))
		}
		b.overfill("fill")
		b.draws(b.meaning("a", "c", "b")...)
		b.wantEnforce(1, api.OK)
		b.wantCandidates(cand("b", 20), cand("c", 30))
		b.delete("fill")
		b.mortal("d", 1, 40)
		row.follow(b)
	}
}

// A pool for one has room for the soonest alone, and Enforce finds the next one by the next Round.
func TestP15_2_APoolForOne(t *testing.T) {
	for _, policy := range evicting {
		b := newBoth(t, api.Config{Most: 140, Policy: policy, Samples: 3}, 1)
		for i, key := range []string{"a", "b", "c", "d"} {
			b.mortal(key, 1, int64(i)+1)
		}
		l := b.meaning("d", "b", "c", "d", "c", "a")
		b.draws(append(l, 7)...)
		b.wantEnforce(2, api.OK)
		b.wantSteps(gone+"b", gone+"a")
		b.wantStored("c", "d")
		b.wantCandidates()
		b.wantLeft(1)
		b.end()
	}
}

// With one sample a Round, and no candidate from before, the sampled key goes, however late it comes.
func TestP15_2_OneSample(t *testing.T) {
	for _, policy := range evicting {
		for _, first := range []string{"a", "b", "c", "d"} {
			b := newBoth(t, api.Config{Most: 200, Policy: policy, Samples: 1}, api.MaxPool)
			for i, key := range []string{"a", "b", "c", "d"} {
				b.mortal(key, 1, int64(i)+1)
			}
			b.draws(b.meaning(first)...)
			b.wantEnforce(1, api.OK)
			b.wantSteps(gone + first)
			b.wantCandidates()
			b.end()
		}
	}
}

// A source that has run out draws 0, and Enforce goes on till there is room.
func TestP15_2_RunOut(t *testing.T) {
	for _, policy := range evicting {
		for left := range 8 {
			b := newBoth(t, api.Config{Seed: 5, Most: 70, Policy: policy, Samples: 3}, 2)
			for i := range 9 {
				b.mortal(name(i), 1, 50-int64(i))
			}
			b.draws(upTo(9)[9-left:]...)
			for b.m.used() > 0 {
				if n, code := b.enforce(); code != api.OK || b.s.Used() > 70 {
					t.Fatalf("Enforce: %d %d, Used: %d", n, code, b.s.Used())
				}
				b.wantLeft(0)
				b.delete(b.s.Keys()[0])
			}
			b.end()
		}
	}
}

// The same call twice: behind the first there is room, or none that could go; the second one finds nothing to do.
func TestP15_2_TheSameCallTwice(t *testing.T) {
	for _, policy := range policies {
		for _, most := range []int64{1, 70, 140, 300} {
			b := ripe(t, most, policy)
			_, code := b.enforce()
			left, kept, stored := b.r.Left(), b.p.Candidates(), len(b.s.Stored())
			b.forget()
			b.wantEnforce(0, code)
			b.wantLeft(left)
			b.wantCandidates(kept...)
			b.wantSteps()
			b.wantTouched()
			if n := len(b.s.Stored()); n != stored {
				t.Fatalf("%d keys, not %d", n, stored)
			}
			b.end()
		}
	}
}

// What was written down before stays there to be asked for, ahead of what Enforce adds.
func TestP15_2_StepsAndTouchesAreLeft(t *testing.T) {
	b := ofUse(t, 130, 2)
	b.mortal("old", 1, 3)
	b.mortal("past", 1, 4)
	b.tick(3)
	b.get("old")
	b.tick(4)
	b.puts("a", "b", "c")
	b.draws(b.meaning("b", "c")...)
	b.round()
	b.draws(b.meaning("a", "a")...)
	b.wantEnforce(1, api.OK)
	b.wantSteps(expired+"old", expired+"past", gone+"a")
	b.wantTouched("a", "b", "c", "old", "past")
	b.end()
}

// The two of equal arguments answer alike, whatever was done to others in between.
func TestP15_2_Alike(t *testing.T) {
	for _, policy := range policies {
		one, other, two := ripe(t, 70, policy), ripe(t, 1, policy), ripe(t, 70, policy)
		n, code := one.enforce()
		other.round()
		other.enforce()
		two.wantEnforce(n, code)
		same(t, "Candidates", one.p.Candidates(), two.p.Candidates())
		same(t, "Steps", named(one.s.Steps()), named(two.s.Steps()))
		same(t, "Touched", one.s.Touched(), two.s.Touched())
		same(t, "Keys", one.s.Keys(), two.s.Keys())
		if one.r.Left() != two.r.Left() {
			t.Fatalf("Left: %d, not %d", two.r.Left(), one.r.Left())
		}
	}
}

// One pool, and one source, may serve two spaces in turn.
func TestP15_2_TwoSpaces(t *testing.T) {
	one, two := ofUse(t, 100, 2), ofUse(t, 100, 2)
	two.p, two.r = one.p, one.r
	two.m.ranks = one.m.ranks
	one.puts("a", "b", "c")
	two.puts("c", "b", "a")
	one.wantEnforce(1, api.OK)
	two.wantEnforce(1, api.OK)
	one.puts("d")
	one.wantEnforce(1, api.OK)
	one.end()
	two.end()
}
