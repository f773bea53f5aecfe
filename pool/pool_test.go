package pool

import (
	"math"
	"math/rand/v2"
	"runtime"
	"slices"
	"strconv"
	"strings"
	"testing"
	"unsafe"
	"weak"

	"pantry/api"
)

// oddKeys are of every sort, not in their order.
var oddKeys = []string{"b", "", "a", "\xff", "ab", "\x00", "B", "a\x00", "é", "10", "9", "\x00\x00", "aa", "\xff\xff", "a\r\nb", "\x7f", "\x80", " ",
	"\xfe\xff", "é ", "a\x00\x00", strings.Repeat("a", 300), strings.Repeat("a", 299) + "b"}

// greatRanks are those that a number with a sign, or a float, would tell in another order.
var greatRanks = []uint64{0, 1, 2, 1<<53 - 1, 1 << 53, 1<<53 + 1, math.MaxInt64 - 1, math.MaxInt64, 1 << 63, 1<<63 + 1, math.MaxUint64 - 1, math.MaxUint64}

func cand(key string, rank uint64) api.Candidate { return api.Candidate{Key: key, Rank: rank} }

func name(i int) string { return "k" + strconv.Itoa(i) }

// filled keeps n candidates of at most so many, k0 the soonest, with ranks 10, 20 and so on.
func filled(t *testing.T, most, n int) both {
	t.Helper()
	b := newBoth(t, most)
	for i := range n {
		b.offer(name(i), 10*uint64(i+1))
	}
	b.hold()
	if len(b.m.ranks) != n {
		t.Fatalf("%d of %d are kept, not %d", len(b.m.ranks), most, n)
	}
	return b
}

func TestP14_1_New(t *testing.T) {
	for _, most := range []int{0, -1, -2, -16, 17, 18, 32, 256, 257, 1 << 32, 1<<32 + 1, -1<<32 + 1, math.MinInt, math.MinInt + 1, math.MaxInt} {
		if p, code := New(most); p != nil || code != api.ErrArg {
			t.Errorf("New(%d): %v %d", most, p, code)
		}
	}
	for most := 1; most <= 16; most++ {
		p, code := New(most)
		if p == nil || code != api.OK {
			t.Fatalf("New(%d): %v %d", most, p, code)
		}
		want(t, "a new pool", p.Candidates())
		if c, ok := p.Take(); c != (api.Candidate{}) || ok {
			t.Errorf("Take of a new pool: %s %v", short(c), ok)
		}
		if p.Drop("") {
			t.Error("Drop of a new pool")
		}
	}
}

// It keeps just as many as were asked for.
func TestP14_1_HowMany(t *testing.T) {
	for most := 1; most <= 16; most++ {
		p := newPool(t, most)
		for i := range 40 {
			if kept := p.Offer(cand(name(i), uint64(i))); kept != (i < most) {
				t.Fatalf("the offer %d of a pool for %d: %v", i, most, kept)
			}
			if n := len(p.Candidates()); n != min(i+1, most) {
				t.Fatalf("%d are kept behind %d offers to a pool for %d", n, i+1, most)
			}
		}
	}
}

func TestP14_1_PoolsAreApart(t *testing.T) {
	a, b := newBoth(t, 3), newBoth(t, 3)
	for i := range 12 {
		a.offer(name(i), uint64(20-i))
		b.offer(name(i/2), uint64(i))
		a.hold()
		b.hold()
	}
	stood := a.p.Candidates()
	b.take()
	b.drop(name(1))
	b.clear()
	b.hold()
	want(t, "the other pool", a.p.Candidates(), stood...)
	a.hold()
	b.offer("x", 1)
	a.clear()
	b.hold()
	want(t, "the pool that was not cleared", b.p.Candidates(), cand("x", 1))
}

func TestP14_2_ChapterExample(t *testing.T) {
	p := newPool(t, 2)
	for i, row := range []struct {
		c    api.Candidate
		kept bool
		row  []api.Candidate
	}{
		{cand("a", 5), true, []api.Candidate{cand("a", 5)}},
		{cand("b", 3), true, []api.Candidate{cand("b", 3), cand("a", 5)}},
		{cand("c", 9), false, []api.Candidate{cand("b", 3), cand("a", 5)}},
		{cand("c", 4), true, []api.Candidate{cand("b", 3), cand("c", 4)}},
		{cand("b", 7), true, []api.Candidate{cand("c", 4), cand("b", 7)}},
		{cand("a", 7), true, []api.Candidate{cand("c", 4), cand("a", 7)}},
		{cand("b", 7), false, []api.Candidate{cand("c", 4), cand("a", 7)}},
	} {
		if kept := p.Offer(row.c); kept != row.kept {
			t.Errorf("%d: Offer %s: %v", i, short(row.c), kept)
		}
		want(t, strconv.Itoa(i), p.Candidates(), row.row...)
	}
}

// A pool with room keeps whoever comes: ahead of all, between, behind all.
func TestP14_2_Room(t *testing.T) {
	for most := 2; most <= 16; most++ {
		for n := range most {
			for rank := uint64(0); rank <= 10*uint64(n)+15; rank += 5 {
				for _, key := range []string{"", "k", "k00", "z"} {
					b := filled(t, most, n)
					b.offer(key, rank)
					b.hold()
					if len(b.p.Candidates()) != n+1 {
						t.Fatalf("Offer %s to %d of %d: %s", short(cand(key, rank)), n, most, short(b.p.Candidates()...))
					}
				}
			}
		}
	}
}

// A full pool keeps one that comes sooner than its last, and only that.
func TestP14_2_Full(t *testing.T) {
	for most := 1; most <= 16; most++ {
		last := cand(name(most-1), 10*uint64(most))
		for _, row := range []struct {
			c    api.Candidate
			kept bool
		}{
			{cand("x", 0), true}, {cand("", 0), true}, {cand("x", 5), true}, {cand("x", last.Rank-1), true}, {cand("\xff", last.Rank-1), true},
			{cand("j", last.Rank), true}, {cand("", last.Rank), true}, {cand("k", last.Rank), true},
			{cand("l", last.Rank), false}, {cand(last.Key+"\x00", last.Rank), false}, {cand("\xff", last.Rank), false},
			{cand("", last.Rank+1), false}, {cand("j", last.Rank+1), false}, {cand("x", last.Rank+1), false}, {cand("", math.MaxUint64), false},
		} {
			b := filled(t, most, most)
			if kept := b.p.Offer(row.c); kept != row.kept || b.m.offer(row.c) != row.kept {
				t.Fatalf("Offer %s to a full pool for %d: %v", short(row.c), most, kept)
			}
			b.hold()
			if stays := slices.Contains(b.p.Candidates(), last); stays == row.kept {
				t.Fatalf("Offer %s to a full pool for %d: the last one stays: %v", short(row.c), most, stays)
			}
		}
	}
}

// A candidate that is kept just so is offered once more: true, and nothing is changed, in a full pool too.
func TestP14_2_JustAlike(t *testing.T) {
	for most := 1; most <= 16; most++ {
		for n := 1; n <= most; n++ {
			b := filled(t, most, n)
			stood := b.p.Candidates()
			for i := range n {
				if !b.p.Offer(stood[i]) {
					t.Fatalf("the candidate %d of %d, kept: false", i, n)
				}
				want(t, "offered once more", b.p.Candidates(), stood...)
			}
		}
	}
}

// A key that is kept gets every rank, sooner and later ones, also later than the last one's: it stays in any case,
// and nobody goes for it.
func TestP14_2_KeptWithAnotherRank(t *testing.T) {
	for most := 1; most <= 16; most++ {
		for _, n := range []int{most, most - 1} {
			for i := range n {
				for _, rank := range []uint64{0, 1, 5, 10, 15, 20, 25, 10*uint64(i) + 9, 10*uint64(i) + 10, 10*uint64(i) + 11, 10 * uint64(n), 10*uint64(n) + 1, 999, 1 << 63, math.MaxUint64} {
					b := filled(t, most, n)
					if !b.p.Offer(cand(name(i), rank)) {
						t.Fatalf("the key %d of %d, with the rank %d: false", i, n, rank)
					}
					b.m.offer(cand(name(i), rank))
					b.hold()
					if l := b.p.Candidates(); len(l) != n || !slices.Contains(l, cand(name(i), rank)) {
						t.Fatalf("the key %d of %d, with the rank %d: %s", i, n, rank, short(l...))
					}
				}
			}
		}
	}
}

// The last one has the rank from now on: what it was before holds nobody off, and lets nobody in.
func TestP14_2_TheRankFromNowOn(t *testing.T) {
	b := filled(t, 2, 2)
	b.offer("k1", 90)
	b.offer("x", 50)
	want(t, "x came for the later k1", b.p.Candidates(), cand("k0", 10), cand("x", 50))
	b.offer("x", 5)
	b.offer("y", 20)
	want(t, "y came not for the sooner x", b.p.Candidates(), cand("x", 5), cand("k0", 10))
	b.offer("y", 7)
	want(t, "y came for k0", b.p.Candidates(), cand("x", 5), cand("y", 7))
}

func TestP14_2_EqualRanks(t *testing.T) {
	for _, rank := range greatRanks {
		b := newBoth(t, 3)
		for _, key := range []string{"m", "o", "n"} {
			b.offer(key, rank)
		}
		want(t, "by their keys", b.p.Candidates(), cand("m", rank), cand("n", rank), cand("o", rank))
		b.offer("p", rank)
		want(t, "p comes later", b.p.Candidates(), cand("m", rank), cand("n", rank), cand("o", rank))
		b.offer("na", rank)
		want(t, "na comes behind n", b.p.Candidates(), cand("m", rank), cand("n", rank), cand("na", rank))
		b.offer("", rank)
		want(t, "the empty text comes first", b.p.Candidates(), cand("", rank), cand("m", rank), cand("n", rank))
		b.offer("n", rank)
		b.hold()
	}
}

func TestP14_2_GreatRanks(t *testing.T) {
	for i, a := range greatRanks {
		for _, z := range greatRanks[i+1:] {
			b := newBoth(t, 1)
			b.offer("a", z)
			b.offer("b", a)
			want(t, "the lesser rank came", b.p.Candidates(), cand("b", a))
			b.offer("a", z)
			want(t, "the greater one did not", b.p.Candidates(), cand("b", a))
			b = newBoth(t, 2)
			b.offer("a", z)
			b.offer("b", a)
			want(t, "the lesser rank first", b.p.Candidates(), cand("b", a), cand("a", z))
		}
	}
	p := newPool(t, 1)
	if !p.Offer(cand("b", math.MaxUint64)) || p.Offer(cand("c", math.MaxUint64)) || !p.Offer(cand("a", math.MaxUint64)) {
		t.Error("the greatest rank")
	}
	want(t, "the greatest rank", p.Candidates(), cand("a", math.MaxUint64))
}

// The least candidate there is looks like none at all, and is one.
func TestP14_2_TheLeast(t *testing.T) {
	b := newBoth(t, 2)
	b.offer("", 0)
	want(t, "it is kept", b.p.Candidates(), api.Candidate{})
	b.offer("", 0)
	want(t, "it is kept once", b.p.Candidates(), api.Candidate{})
	b.offer("a", 0)
	b.offer("b", 0)
	want(t, "it comes soonest", b.p.Candidates(), api.Candidate{}, cand("a", 0))
	if c, ok := b.p.Take(); c != (api.Candidate{}) || !ok {
		t.Errorf("Take: %s %v", short(c), ok)
	}
	b.m.take()
	b.hold()
	b.offer("", 3)
	b.hold()
	if !b.p.Drop("") || b.p.Drop("") {
		t.Error("Drop of the empty text")
	}
	want(t, "a is left", b.p.Candidates(), cand("a", 0))
}

func TestP14_2_EveryByte(t *testing.T) {
	for _, rank := range []uint64{0, 7, math.MaxUint64} {
		for _, form := range []func(c string) string{
			func(c string) string { return c }, func(c string) string { return "a" + c }, func(c string) string { return c + "a" },
		} {
			b := newBoth(t, 16)
			for i := range 256 {
				b.offer(form(string([]byte{byte(i * 77)})), rank)
				b.hold()
			}
			for i, c := range b.p.Candidates() {
				if c != cand(form(string([]byte{byte(i)})), rank) {
					t.Fatalf("the candidate %d: %s", i, short(c))
				}
			}
		}
	}
}

func TestP14_2_OddKeys(t *testing.T) {
	for most := 1; most <= 16; most++ {
		b := newBoth(t, most)
		for _, rank := range []uint64{4, 3, 5, 3} {
			for _, key := range oddKeys {
				b.offer(key, rank)
				b.hold()
			}
		}
	}
}

// The chapter names no bound of keys.
func TestP14_2_LongKeys(t *testing.T) {
	long := strings.Repeat("l", api.MaxText)
	b := newBoth(t, 3)
	for _, key := range []string{long + "x", long, long[1:] + "k", long[1:], "l", long + "x"} {
		b.offer(key, 1)
		b.hold()
	}
	b.drop(long[1:])
	b.drop(long)
	b.hold()
	b.take()
	b.take()
	b.take()
	b.hold()
}

// What was told of an offer that was refused is so: nothing was changed.
func TestP14_2_RefusedOffersLeaveAll(t *testing.T) {
	for most := 1; most <= 16; most++ {
		b := filled(t, most, most)
		stood := b.p.Candidates()
		for i := range 50 {
			if b.p.Offer(cand("x"+name(i%7), 10*uint64(most)+uint64(i))) {
				t.Fatalf("the offer %d", i)
			}
			want(t, "behind a refused offer", b.p.Candidates(), stood...)
		}
	}
}

func TestP14_3_ChapterExample(t *testing.T) {
	p := newPool(t, 2)
	p.Offer(cand("c", 4))
	p.Offer(cand("a", 7))
	for i, row := range []struct {
		c  api.Candidate
		ok bool
	}{{cand("c", 4), true}, {cand("a", 7), true}, {api.Candidate{}, false}, {api.Candidate{}, false}} {
		if c, ok := p.Take(); c != row.c || ok != row.ok {
			t.Errorf("Take %d: %s %v", i, short(c), ok)
		}
	}
	if p.Drop("a") {
		t.Error("Drop of one that went")
	}
}

func TestP14_3_Drop(t *testing.T) {
	for most := 1; most <= 16; most++ {
		for n := 1; n <= most; n++ {
			for i := range n {
				b := filled(t, most, n)
				stood := b.p.Candidates()
				if !b.p.Drop(name(i)) {
					t.Fatalf("Drop of the candidate %d of %d: false", i, n)
				}
				want(t, "the others stay", b.p.Candidates(), slices.Delete(stood, i, i+1)...)
				if b.p.Drop(name(i)) {
					t.Fatalf("Drop of the candidate %d of %d once more: true", i, n)
				}
				b.m.drop(name(i))
				b.hold()
				b.offer("x", 999) // there is room again
				b.hold()
			}
		}
	}
}

func TestP14_3_DropOfOneThatIsNotKept(t *testing.T) {
	for _, n := range []int{0, 1, 3, 16} {
		b := filled(t, 16, n)
		stood := b.p.Candidates()
		for _, key := range append([]string{"k", "k00", "K0", " k0", "k0 ", "k99", "k\x00"}, oddKeys...) {
			if b.p.Drop(key) {
				t.Errorf("Drop(%.40q) of %d: true", key, n)
			}
			want(t, "behind Drop", b.p.Candidates(), stood...)
		}
	}
	b := filled(t, 2, 2)
	b.offer("late", 99)
	b.drop("late") // it was offered, and never kept
	b.offer("early", 1)
	b.drop("k1") // it was kept, and went for a sooner one
	b.hold()
}

// Of keys that begin alike just the one goes that was named.
func TestP14_3_DropOddKeys(t *testing.T) {
	b := newBoth(t, 16)
	for i, key := range oddKeys[:16] {
		b.offer(key, uint64(i/2))
	}
	for _, key := range oddKeys {
		b.drop(key)
		b.hold()
	}
	want(t, "all went", b.p.Candidates())
}

func TestP14_3_TakeDownToNone(t *testing.T) {
	for most := 1; most <= 16; most++ {
		for n := range most + 1 {
			b := filled(t, most, n)
			for i := range n {
				if c, ok := b.p.Take(); c != cand(name(i), 10*uint64(i+1)) || !ok {
					t.Fatalf("Take %d of %d: %s %v", i, n, short(c), ok)
				}
				b.m.take()
				b.hold()
			}
			for range 3 {
				if c, ok := b.p.Take(); c != (api.Candidate{}) || ok {
					t.Fatalf("Take of nothing: %s %v", short(c), ok)
				}
			}
			for i := range most + 1 {
				b.offer(name(i), uint64(most-i))
				b.hold()
			}
		}
	}
}

// One that went may come again, with any rank.
func TestP14_3_GoneAndThereAgain(t *testing.T) {
	b := filled(t, 2, 2)
	b.take()
	b.offer("k0", 70)
	want(t, "k0 came again", b.p.Candidates(), cand("k1", 20), cand("k0", 70))
	b.drop("k1")
	b.offer("k1", 80)
	want(t, "k1 came again", b.p.Candidates(), cand("k0", 70), cand("k1", 80))
	b.offer("x", 75)
	b.offer("k1", 71)
	want(t, "k1 came for x", b.p.Candidates(), cand("k0", 70), cand("k1", 71))
}

func TestP14_3_Clear(t *testing.T) {
	for most := 1; most <= 16; most++ {
		for n := range most + 1 {
			b := filled(t, most, n)
			b.clear()
			want(t, "behind Clear", b.p.Candidates())
			if c, ok := b.p.Take(); c != (api.Candidate{}) || ok {
				t.Fatalf("Take behind Clear: %s %v", short(c), ok)
			}
			if b.p.Drop(name(0)) {
				t.Fatal("Drop behind Clear: true")
			}
			b.clear()
			b.hold()
			for i := range most + 2 { // it keeps as many as before
				b.offer(name(i), 500-uint64(i))
				b.hold()
			}
		}
	}
}

// TestP14_3_HoldsOnToNothing: the bytes of a key that went are not kept, however it went.
func TestP14_3_HoldsOnToNothing(t *testing.T) {
	rising, falling := []uint64{1, 2, 3, 4, 5, 6}, []uint64{6, 5, 4, 3, 2, 1}
	for _, row := range []struct {
		name  string
		ranks []uint64 // of the keys k0 to k5
		do    func(p *Pool)
		left  int // of these keys, the last ones
	}{
		{"nothing", rising, func(p *Pool) {}, 6},
		{"Take", rising, func(p *Pool) { p.Take(); p.Take(); p.Take() }, 3},
		{"Take of all", rising, func(p *Pool) {
			for range 6 {
				p.Take()
			}
		}, 0},
		{"Drop of the soonest", rising, func(p *Pool) { p.Drop(longName(1)); p.Drop(longName(0)); p.Drop(longName(2)) }, 3},
		{"Drop of the last", falling, func(p *Pool) { p.Drop(longName(1)); p.Drop(longName(0)); p.Drop(longName(2)) }, 3},
		{"Offer of sooner ones", falling, func(p *Pool) { p.Offer(cand("x", 0)); p.Offer(cand("y", 0)); p.Offer(cand("z", 0)) }, 3},
		{"Clear", rising, func(p *Pool) { p.Clear() }, 0},
	} {
		p := newPool(t, 6)
		var bytes []weak.Pointer[byte]
		for i, rank := range row.ranks {
			key := strings.Clone(longName(i))
			p.Offer(cand(key, rank))
			bytes = append(bytes, weak.Make(unsafe.StringData(key)))
		}
		row.do(p)
		runtime.GC()
		for i, at := range bytes {
			if kept := at.Value() != nil; kept != (i >= 6-row.left) {
				t.Errorf("%s: the key %d: held on to %v", row.name, i, kept)
			}
		}
		runtime.KeepAlive(p)
	}
}

func longName(i int) string { return name(i) + strings.Repeat("x", 4000) }

func TestP14_4_AskedTwice(t *testing.T) {
	for most := 1; most <= 16; most++ {
		for n := range most + 1 {
			b := filled(t, most, n)
			first, second := b.p.Candidates(), b.p.Candidates()
			want(t, "asked twice", second, first...)
			if len(first) != n {
				t.Fatalf("%d of %d", len(first), n)
			}
			b.hold()
		}
	}
}

// What is written into the list that was told, or behind its end, is seen by nobody.
func TestP14_4_ToldInMemoryOfItsOwn(t *testing.T) {
	for most := 1; most <= 16; most++ {
		for n := range most + 1 {
			b := filled(t, most, n)
			first, second := b.p.Candidates(), b.p.Candidates()
			stood := slices.Clone(second)
			for i := range first[:cap(first)] {
				first[:cap(first)][i] = cand("spoilt", 0)
			}
			first = append(first, cand("spoilt behind", 1))
			want(t, "told before", second, stood...)
			b.hold()
			b.offer("x", 15)
			b.hold()
			spoilt := b.p.Candidates()
			clear(spoilt[:cap(spoilt)])
			b.take()
			b.hold()
			b.drop("x")
			b.hold()
			if first[len(first)-1] != cand("spoilt behind", 1) || slices.ContainsFunc(spoilt[:cap(spoilt)], func(c api.Candidate) bool { return c != api.Candidate{} }) {
				t.Fatal("what the caller wrote into its list was changed")
			}
		}
	}
}

// What was told before is not changed by what comes later.
func TestP14_4_WhatWasToldStays(t *testing.T) {
	for most := 1; most <= 16; most++ {
		for _, later := range []func(p *Pool){
			func(p *Pool) { p.Offer(cand("x", 0)) },
			func(p *Pool) { p.Offer(cand(name(0), 999)) },
			func(p *Pool) { p.Offer(cand(name(most-1), 0)) },
			func(p *Pool) { p.Drop(name(0)) },
			func(p *Pool) { p.Take() },
			func(p *Pool) { p.Clear(); p.Offer(cand("x", 0)); p.Offer(cand("y", 0)) },
		} {
			b := filled(t, most, most)
			told := b.p.Candidates()
			stood := slices.Clone(told)
			later(b.p)
			want(t, "told before", told, stood...)
		}
	}
}

func TestP14_5_NoPool(t *testing.T) {
	var p *Pool
	for range 2 {
		for _, c := range []api.Candidate{{}, cand("a", 1), cand("a", math.MaxUint64)} {
			if p.Offer(c) {
				t.Errorf("Offer %s: true", short(c))
			}
		}
		for _, key := range oddKeys {
			if p.Drop(key) {
				t.Errorf("Drop(%.40q): true", key)
			}
		}
		if c, ok := p.Take(); c != (api.Candidate{}) || ok {
			t.Errorf("Take: %s %v", short(c), ok)
		}
		want(t, "Candidates", p.Candidates())
		p.Clear()
	}
}

// soonest offers candidates of unlike keys to a new pool, and holds what is kept against all of them in their order.
func soonest(t *testing.T, most int, l []api.Candidate) {
	t.Helper()
	p := newPool(t, most)
	for _, c := range l {
		p.Offer(c)
	}
	all := inTheirOrder(l)
	all = all[:min(most, len(all))]
	want(t, "the soonest", p.Candidates(), all...)
	for i, c := range all {
		if got, ok := p.Take(); got != c || !ok {
			t.Fatalf("Take %d: %s %v, not %s", i, short(got), ok, short(c))
		}
	}
	if c, ok := p.Take(); ok {
		t.Fatalf("Take of one more: %s", short(c))
	}
}

// Few candidates come in every order there is.
func TestP14_6_EveryOrderOfFew(t *testing.T) {
	l := []api.Candidate{cand("b", 1), cand("a", 1), cand("", 2), cand("c", 0), cand("ab", 1), cand("\xff", math.MaxUint64)}
	orders := 0
	var permute func(k int)
	permute = func(k int) {
		if k == len(l) {
			orders++
			for most := 1; most <= 7; most++ {
				soonest(t, most, l)
			}
			return
		}
		for i := k; i < len(l); i++ {
			l[k], l[i] = l[i], l[k]
			permute(k + 1)
			l[k], l[i] = l[i], l[k]
		}
	}
	permute(0)
	if orders != 720 {
		t.Errorf("%d orders", orders)
	}
}

// Many come, rising, falling and in no order, with ranks of which few or many are equal.
func TestP14_6_Many(t *testing.T) {
	draws := rand.New(rand.NewPCG(14, 6))
	for most := 1; most <= 16; most++ {
		for _, n := range []int{0, 1, most - 1, most, most + 1, 40, 300} {
			for _, ranks := range []uint64{1, 3, 100, math.MaxUint64} {
				var l []api.Candidate
				for i := range n {
					l = append(l, cand(name(i), draws.Uint64N(ranks)))
				}
				soonest(t, most, l)
				l = inTheirOrder(l)
				soonest(t, most, l)
				slices.Reverse(l)
				soonest(t, most, l)
			}
		}
	}
}

// do does one of the calls that a number means: Take, Clear, Drop of a key, Offer of a key with a rank.
func (b both) do(call int, keys []string, ranks []uint64) {
	b.t.Helper()
	switch {
	case call == 0:
		b.take()
	case call == 1:
		b.clear()
	case call < 2+len(keys):
		b.drop(keys[call-2])
	default:
		call -= 2 + len(keys)
		b.offer(keys[call%len(keys)], ranks[call/len(keys)])
	}
}

func callsOf(keys []string, ranks []uint64) int { return 2 + len(keys) + len(keys)*len(ranks) }

// Each row of a few calls is done, whatever they are, and looked at behind its last.
func TestP14_7_EveryShortRowOfCalls(t *testing.T) {
	keys, ranks := []string{"a", "", "b"}, []uint64{1, math.MaxUint64}
	calls := callsOf(keys, ranks)
	for most := 1; most <= 3; most++ {
		rows := 1
		for length := 1; length <= 5; length++ {
			rows *= calls
			for row := range rows {
				b := newBoth(t, most)
				for range length {
					b.do(row%calls, keys, ranks)
					row /= calls
				}
				b.hold()
			}
		}
	}
}

// Long rows of calls, mostly offers, so that the pool is full now and then, and empty now and then.
func TestP14_7_LongRowsOfCalls(t *testing.T) {
	draws := rand.New(rand.NewPCG(14, 7))
	calls := callsOf(oddKeys, greatRanks)
	for most := 1; most <= 16; most++ {
		b := newBoth(t, most)
		full, empty := 0, 0
		for range 6000 {
			call := draws.IntN(calls)
			if draws.IntN(4) == 0 {
				call = draws.IntN(2 + len(oddKeys))
			}
			if call == 1 && draws.IntN(2) == 0 {
				call = 0
			}
			b.do(call, oddKeys, greatRanks)
			b.hold()
			if n := len(b.m.ranks); n == most {
				full++
			} else if n == 0 {
				empty++
			}
		}
		if full < 100 || empty < 10 {
			t.Errorf("a pool for %d was full %d times, empty %d times: the calls are not well mixed", most, full, empty)
		}
	}
}
