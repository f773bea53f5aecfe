package rank

import (
	"math"
	"math/rand/v2"
	"runtime"
	"slices"
	"strconv"
	"strings"
	"testing"
	"unsafe"
	"weak"

	"pantry/api"
	"pantry/score"
)

var (
	inf    = math.Inf(1)
	nought = math.Copysign(0, -1)
	long   = strings.Repeat("l", 1048576)
)

// oddTexts are members of every sort, not in their order; rising are the same in their order.
var (
	oddTexts = []string{"b", "", "a", "\xff", "ab", "\x00", "B", "a\x00", "é", "10", "9", "\x00\x00", "aa", "\xff\xff", "a\r\nb", "\x7f", "\x80", " ", strings.Repeat("a", 300)}
	rising   = []string{"", "\x00", "\x00\x00", " ", "10", "9", "B", "a", "a\x00", "a\r\nb", "aa", strings.Repeat("a", 300), "ab", "b", "\x7f", "\x80", "é", "\xff", "\xff\xff"}
)

// edges are the floats at which something begins or ends, and some neighbours of these, rising.
var edges = []float64{-inf, -math.MaxFloat64, -1e17, -2, -1, -0x1p-1022, -math.SmallestNonzeroFloat64, nought, 0,
	math.SmallestNonzeroFloat64, 0x1p-1022, 0.1, 1 - 0x1p-53, 1, 1 + 0x1p-52, 1.5, 2, 9007199254740992, 9007199254740994, 1e17,
	math.MaxFloat64, inf}

// seeds are some that ranks may be made with.
var seeds = []uint64{0, 1, 2, 77, 1 << 32, 1 << 63, math.MaxUint64}

// states are ranks with nobody, with few and with many, and such as have lost many.
func states(t *testing.T) []both {
	t.Helper()
	emptied := filled(t, 3, 20)
	for i := range 20 {
		emptied.delete(name(i))
	}
	odd := newBoth(t, 4)
	for i, member := range oddTexts {
		odd.set(member, edges[i%len(edges)])
	}
	thinned := filled(t, 8, 2500)
	for i := range 2500 {
		if i%40 != 0 {
			thinned.r.Delete(name(i))
			thinned.m.delete(name(i))
		}
	}
	hold(t, thinned.r, thinned.m)
	return []both{newBoth(t, 1), emptied, filled(t, 2, 1), filled(t, 0, 4), filled(t, 5, 30), odd, thinned, filled(t, 7, 2500)}
}

// changes are calls of every kind that may change ranks which have the member m0.
var changes = []struct {
	name string
	do   func(b both)
}{
	{"Set of a new member", func(b both) { b.set("new", 3) }},
	{"Set of the empty text", func(b both) { b.set("", 1000) }},
	{"Set of a member to another score", func(b both) { b.set(name(0), -7) }},
	{"Set of a member to the score that it has", func(b both) { b.set(name(0), 0) }},
	{"Set to NaN", func(b both) { b.set(name(0), math.NaN()) }},
	{"Set of too long a text", func(b both) { b.set(long+"x", 1) }},
	{"Delete", func(b both) { b.delete(name(0)) }},
	{"Delete of nobody", func(b both) { b.delete("nobody") }},
	{"Score and Rank", func(b both) { b.ask(name(0)); b.ask("nobody") }},
	{"Delete of the first and the last", func(b both) {
		if n := len(b.m.list); n > 0 {
			first, last := b.m.list[0].Member, b.m.list[n-1].Member
			b.delete(last)
			b.delete(first)
		}
	}},
	{"all get other scores", func(b both) {
		for _, e := range b.m.copy().list {
			b.r.Set(e.Member, 5-e.Score)
			b.m.set(e.Member, 5-e.Score)
		}
		hold(b.t, b.r, b.m)
	}},
	{"Delete of all", func(b both) {
		for _, e := range b.m.copy().list {
			b.r.Delete(e.Member)
			b.m.delete(e.Member)
		}
		hold(b.t, b.r, b.m)
	}},
}

func wantRow(t *testing.T, name string, got []api.Ranked, want ...string) {
	t.Helper()
	var members []string
	for _, e := range got {
		members = append(members, e.Member)
	}
	if !slices.Equal(members, want) {
		t.Errorf("%s: %s, not %q", name, short(got), want)
	}
}

func TestP11_1_NewAndLen(t *testing.T) {
	for _, seed := range seeds {
		r := New(seed)
		if r == nil || r.Len() != 0 || len(r.Range(0, 10)) != 0 || r.Cost() != 0 {
			t.Fatal("new ranks have members, or are none")
		}
		for i := range 100 {
			r.Set(name(i), float64(i%5))
			if r.Len() != i+1 {
				t.Fatalf("Len: %d behind %d new members", r.Len(), i+1)
			}
			r.Set(name(i/2), float64(-i))
			r.Set("none", math.NaN())
			r.Set(long+"x", 1)
			r.Delete("nobody")
			if r.Len() != i+1 {
				t.Fatalf("Len: %d behind calls that bring and take nobody", r.Len())
			}
		}
		for i := range 100 {
			r.Delete(name(i))
			if r.Len() != 99-i {
				t.Fatalf("Len: %d behind %d members that went", r.Len(), i+1)
			}
		}
	}
}

func TestP11_1_RanksAreApart(t *testing.T) {
	a, b := newBoth(t, 5), newBoth(t, 5)
	for i := range 40 {
		a.set(name(i), 1)
		b.set(name(i), 2)
		hold(t, a.r, a.m)
	}
	for i := range 40 {
		b.delete(name(i))
		hold(t, a.r, a.m)
	}
}

func TestP11_2_ChapterExamples(t *testing.T) {
	r := New(0)
	for _, e := range []api.Ranked{{Member: "b", Score: 1}, {Member: "a", Score: 1}, {Member: "c", Score: nought}, {Member: "d", Score: -inf}} {
		if fresh, code := r.Set(e.Member, e.Score); !fresh || code != api.OK {
			t.Errorf("Set(%s): %v %d", e.Member, fresh, code)
		}
	}
	wantRow(t, "Range(0, 9)", r.Range(0, 9), "d", "c", "a", "b")
	if i, ok := r.Rank("a"); i != 2 || !ok {
		t.Errorf("Rank(a): %d %v", i, ok)
	}
	if fresh, code := r.Set("c", 0); fresh || code != api.OK {
		t.Errorf("Set(c) to 0: %v %d", fresh, code)
	}
	if x, ok := r.Score("c"); !same(x, nought) || !ok {
		t.Errorf("Score(c): %v %v", x, ok)
	}
	if fresh, code := r.Set("a", 2); fresh || code != api.OK {
		t.Errorf("Set(a) to 2: %v %d", fresh, code)
	}
	if i, ok := r.Rank("a"); i != 3 || !ok {
		t.Errorf("Rank(a): %d %v", i, ok)
	}
	wantRow(t, "Range(-5, 1)", r.Range(-5, 1), "d")
	wantRow(t, "Range(2, 1)", r.Range(2, 1))
	if got := r.Range(1, 2); !sameRanked(got, []api.Ranked{{Member: "c", Score: nought}}) {
		t.Errorf("Range(1, 2): %s", short(got))
	}
	if r.Cost() != 164 {
		t.Errorf("Cost: %d", r.Cost())
	}
	if fresh, code := r.Set("e", math.NaN()); fresh || code != api.ErrFloat {
		t.Errorf("Set(e) to NaN: %v %d", fresh, code)
	}
}

// refused says that a Set is answered with an error, and that nothing is changed by it.
func refused(t *testing.T, b both, member string, x float64, want api.Errno) {
	t.Helper()
	if fresh, code := b.r.Set(member, x); fresh || code != want {
		t.Errorf("Set(%.40q of %d bytes, %v): %v %d, not %d", member, len(member), x, fresh, code, want)
	}
	hold(t, b.r, b.m)
	b.ask(member)
}

func TestP11_2_LongTexts(t *testing.T) {
	for _, b := range states(t) {
		refused(t, b, long+"x", 1, api.ErrLong)
		refused(t, b, long+long, -inf, api.ErrLong)
		refused(t, b, long, math.NaN(), api.ErrFloat)
		b.set(long, 3)
		b.set(long, 3)
		b.set(long, -4)
		refused(t, b, long+"x", -4, api.ErrLong)
		if got := b.r.Cost(); got < 40+1048576 {
			t.Errorf("Cost: %d", got)
		}
		b.ask(long)
		b.delete(long + "x")
		b.delete(long)
		b.delete(long)
	}
}

func TestP11_2_NaN(t *testing.T) {
	nans := []float64{math.NaN(), -math.NaN(), inf - inf, math.Float64frombits(0x7ff0000000000001), math.Float64frombits(0xffffffffffffffff)}
	for _, b := range states(t) {
		for _, x := range nans {
			refused(t, b, "none yet", x, api.ErrFloat)
			refused(t, b, "", x, api.ErrFloat)
			refused(t, b, name(0), x, api.ErrFloat)
			refused(t, b, long, x, api.ErrFloat)
			refused(t, b, long+"x", x, api.ErrLong)
		}
		b.set(name(0), 1)
		refused(t, b, name(0), math.NaN(), api.ErrFloat)
	}
}

// The empty text is a member like others.
func TestP11_2_TheEmptyText(t *testing.T) {
	for _, x := range edges {
		b := newBoth(t, 0)
		b.ask("")
		b.delete("")
		b.set("", x)
		b.set("", x)
		b.ask("")
		if b.r.Len() != 1 || b.r.Cost() != 40 {
			t.Error(b.r.Len(), b.r.Cost())
		}
		b.set("\x00", x)
		wantRow(t, "Range", b.r.Range(0, 2), "", "\x00")
		b.set("", inf)
		b.set("", -inf)
		b.delete("")
		b.delete("")
		wantRow(t, "Range", b.r.Range(0, 2), "\x00")
	}
}

// A score that is equal as a number changes nothing: neither the score, nor a nought's sign, nor the place.
func TestP11_2_EqualScores(t *testing.T) {
	for _, row := range []struct{ first, again, kept float64 }{
		{nought, 0, nought}, {0, nought, 0}, {0, 0, 0}, {nought, nought, nought}, {1, 1, 1}, {inf, inf, inf}, {-inf, -inf, -inf},
		{math.SmallestNonzeroFloat64, math.SmallestNonzeroFloat64, math.SmallestNonzeroFloat64},
		{math.MaxFloat64, math.MaxFloat64, math.MaxFloat64}, {0.1 + 0.2, 0.1 + 0.2, 0.1 + 0.2},
	} {
		b := newBoth(t, 1)
		for _, member := range []string{"a", "m", "z"} {
			b.set(member, row.first)
		}
		for range 3 {
			b.set("m", row.again)
			if x, ok := b.r.Score("m"); !same(x, row.kept) || !ok {
				t.Errorf("%v behind %v: %v %v", row.again, row.first, x, ok)
			}
		}
		// Behind another score the sign is the new one.
		b.set("m", 5)
		b.set("m", row.again)
		if x, ok := b.r.Score("m"); !same(x, row.again) || !ok {
			t.Errorf("%v behind 5: %v %v", row.again, x, ok)
		}
		b.delete("m")
		b.set("m", row.first)
	}
}

// Both noughts are one score: members that have them stand by their texts alone.
func TestP11_2_NoughtsStandTogether(t *testing.T) {
	b := newBoth(t, 6)
	for i, member := range oddTexts {
		b.set(member, []float64{0, nought}[i%2])
	}
	b.set("below", -math.SmallestNonzeroFloat64)
	b.set("above", math.SmallestNonzeroFloat64)
	wantRow(t, "Range", b.r.Range(0, 100), slices.Concat([]string{"below"}, rising, []string{"above"})...)
	for i, member := range oddTexts {
		if x, ok := b.r.Score(member); !same(x, []float64{0, nought}[i%2]) || !ok {
			t.Errorf("Score(%q): %v %v", member, x, ok)
		}
	}
}

// A new member is told as new once, and again when it was away.
func TestP11_2_WhatIsNew(t *testing.T) {
	r := New(8)
	for range 3 {
		for i, member := range oddTexts {
			for n, fresh := range []bool{true, false, false} {
				if got, code := r.Set(member, float64(i*n)); got != fresh || code != api.OK {
					t.Errorf("Set(%q): %v %d, not %v", member, got, code, fresh)
				}
			}
		}
		for _, member := range oddTexts {
			if !r.Delete(member) || r.Delete(member) {
				t.Errorf("Delete(%q), once and again", member)
			}
		}
	}
}

// shuffled are the numbers below 2^20, each once, in no order.
func shuffled() []int {
	l := make([]int, 1048576)
	for i := range l {
		l[i] = i * 611953 % 1048576
	}
	return l
}

// allOf makes ranks with as many members as may be: 0 and 1 and so on, each with its number's third as its score.
func allOf(t *testing.T) (r *Ranks, want []api.Ranked) {
	t.Helper()
	r = New(9)
	for _, i := range shuffled() {
		if fresh, code := r.Set(strconv.Itoa(i), float64(i/3)); !fresh || code != api.OK {
			t.Fatalf("Set of the member %d: %v %d", i, fresh, code)
		}
	}
	for i := range 1048576 {
		want = append(want, api.Ranked{Member: strconv.Itoa(i), Score: float64(i / 3)})
	}
	slices.SortStableFunc(want, func(a, b api.Ranked) int {
		switch {
		case standsAhead(a, b):
			return -1
		case standsAhead(b, a):
			return 1
		}
		return 0
	})
	return r, want
}

func TestP11_2_AsManyAsMayBe(t *testing.T) {
	r, want := allOf(t)
	cost := costOfAll(want)
	if r.Len() != 1048576 || r.Cost() != cost {
		t.Fatalf("%d members that cost %d, not %d", r.Len(), r.Cost(), cost)
	}
	for _, row := range []struct {
		member string
		x      float64
		code   api.Errno
	}{
		{"more", 1, api.ErrFull}, {"", -inf, api.ErrFull}, {"1048576", inf, api.ErrFull}, {long, 0, api.ErrFull},
		{long + "x", 1, api.ErrLong}, {long + "x", math.NaN(), api.ErrLong}, {"more", math.NaN(), api.ErrFloat}, {"7", math.NaN(), api.ErrFloat},
		{"7", 2, api.OK}, {"0", nought, api.OK}, {"1048575", 349525, api.OK},
	} {
		if fresh, code := r.Set(row.member, row.x); fresh || code != row.code {
			t.Errorf("Set(%.20q, %v) at all members: %v %d, not %d", row.member, row.x, fresh, code, row.code)
		}
		if !sameRanked(r.Range(0, 1048577), want) || r.Len() != 1048576 || r.Cost() != cost {
			t.Fatalf("Set(%.20q, %v) changed something", row.member, row.x)
		}
	}
	if fresh, code := r.Set("7", -1); fresh || code != api.OK {
		t.Errorf("another score at all members: %v %d", fresh, code)
	}
	wantRow(t, "the first", r.Range(0, 2), "7", "0")
	r.Set("7", 2)
	wholeRanks(t, r, want)
	r.Delete("8")
	if fresh, code := r.Set("more", 5); !fresh || code != api.OK || r.Len() != 1048576 || r.Cost() != cost-41+44 {
		t.Errorf("Set where there is room again: %v %d, Cost %d", fresh, code, r.Cost())
	}
	if fresh, code := r.Set("8", 1); fresh || code != api.ErrFull {
		t.Errorf("Set at all members once more: %v %d", fresh, code)
	}
}

// wholeRanks asks for places and stretches where there are as many members as may be, and takes them all away from a
// copy.
func wholeRanks(t *testing.T, r *Ranks, want []api.Ranked) {
	t.Helper()
	for i := 0; i < len(want); i += 997 {
		if got, ok := r.Rank(want[i].Member); got != i || !ok {
			t.Fatalf("Rank(%s): %d %v, not %d", want[i].Member, got, ok, i)
		}
		if got := r.Range(i, i+3); !sameRanked(got, want[i:min(i+3, len(want))]) {
			t.Fatalf("Range(%d, %d): %s", i, i+3, short(got))
		}
		x := math.Floor(float64(i) / 3)
		if a, b := r.Within(api.Bound{At: x}, api.Bound{At: x}); a != i/3*3 || b != min(i/3*3+3, len(want)) {
			t.Fatalf("Within(%v, %v): %d %d", x, x, a, b)
		}
	}
	c := r.Copy()
	if fresh, code := c.Set("yet another", 1); fresh || code != api.ErrFull || !sameRanked(c.Range(0, 1048576), want) {
		t.Errorf("the copy: %v %d", fresh, code)
	}
	for n, i := range shuffled() {
		if !c.Delete(strconv.Itoa(i)) || c.Len() != 1048575-n {
			t.Fatalf("Delete(%d): %d are left", i, c.Len())
		}
	}
	if c.Cost() != 0 || len(c.Range(0, 9)) != 0 || !sameRanked(r.Range(0, 1048576), want) {
		t.Error("behind all members of the copy:", c.Cost(), short(c.Range(0, 9)))
	}
}

func TestP11_3_Score(t *testing.T) {
	for i, x := range edges {
		b := newBoth(t, uint64(i))
		for k, member := range oddTexts {
			b.ask(member)
			b.set(member, edges[(i+k)%len(edges)])
			b.ask(member)
		}
		for _, member := range []string{"c", "A", "abc", "\x00\x00\x00", "é ", long, long + "x", long + long} {
			b.ask(member)
		}
		for _, member := range oddTexts {
			b.set(member, x)
			b.ask(member)
			b.delete(member)
			b.ask(member)
		}
	}
}

func TestP11_3_NotThere(t *testing.T) {
	for _, b := range states(t) {
		for _, member := range []string{"nobody", "m", "M0", "m00", long, long + "x"} {
			if x, ok := b.r.Score(member); !same(x, 0) || ok {
				t.Errorf("Score: %v %v", x, ok)
			}
			if i, ok := b.r.Rank(member); i != 0 || ok {
				t.Errorf("Rank: %d %v", i, ok)
			}
			if b.r.Delete(member) {
				t.Error("Delete: true")
			}
			hold(t, b.r, b.m)
		}
	}
}

// Each member goes, and is told as gone, once, in the order of the places, from the last one back, and in no order.
func TestP11_3_DeleteEveryMember(t *testing.T) {
	for _, state := range states(t) {
		for _, turn := range []func(l []api.Ranked){
			func([]api.Ranked) {},
			func(l []api.Ranked) { slices.Reverse(l) },
			func(l []api.Ranked) {
				rand.New(rand.NewPCG(3, 3)).Shuffle(len(l), func(i, j int) { l[i], l[j] = l[j], l[i] })
			},
		} {
			b := state.copy()
			all := b.m.copy().list
			turn(all)
			for n, e := range all {
				if n%20 == 0 {
					hold(t, b.r, b.m)
				}
				if got := b.r.Delete(e.Member); !got || !b.m.delete(e.Member) {
					t.Fatalf("Delete(%q): %v", e.Member, got)
				}
				if b.r.Delete(e.Member) {
					t.Fatalf("Delete(%q) again: true", e.Member)
				}
			}
			if b.r.Len() != 0 || b.r.Cost() != 0 || len(b.r.Range(0, 10)) != 0 {
				t.Errorf("%d are left, that cost %d", b.r.Len(), b.r.Cost())
			}
			b.set(name(0), 1)
		}
	}
}

// TestP11_3_HoldsOnToNothing: the bytes of a member that went are not kept, wherever it stood.
func TestP11_3_HoldsOnToNothing(t *testing.T) {
	for _, many := range []int{1, 3, 2000} {
		r := New(6)
		var bytes []weak.Pointer[byte]
		var order []int
		for i := range many {
			member := strings.Clone(name(i) + long[:4000])
			r.Set(member, float64(i))
			bytes = append(bytes, weak.Make(unsafe.StringData(member)))
			order = append(order, i)
		}
		rand.New(rand.NewPCG(3, 4)).Shuffle(many, func(i, j int) { order[i], order[j] = order[j], order[i] })
		for _, i := range order[many/2:] {
			r.Delete(name(i) + long[:4000])
		}
		runtime.GC()
		for n, i := range order {
			if kept := bytes[i].Value() != nil; kept != (n < many/2) {
				t.Errorf("the member %d of %d: held on to %v", i, many, kept)
			}
		}
		runtime.KeepAlive(r)
	}
}

// ends are numbers for places: around the begin and the end of n places, and the greatest and least ones.
func ends(n int) []int {
	l := []int{math.MinInt, math.MinInt + 1, -1 << 44, -n - 1, -n, -2, -1, 0, 1, 2, n / 2, n/2 + 1, n - 2, n - 1, n, n + 1, n + 2, 2 * n,
		1 << 44, 1<<44 + 1, math.MaxInt - 1, math.MaxInt}
	for i := 256; i < n; i += 256 {
		l = append(l, i-1, i, i+1)
	}
	return l
}

func TestP11_4_EveryStretch(t *testing.T) {
	for _, b := range states(t) {
		places := ends(b.r.Len())
		for _, from := range places {
			for _, to := range places {
				if got, want := b.r.Range(from, to), b.m.stretch(from, to); !sameRanked(got, want) {
					t.Fatalf("Range(%d, %d) of %d: %s, not %s", from, to, b.r.Len(), short(got), short(want))
				}
			}
		}
		hold(t, b.r, b.m)
	}
}

func TestP11_4_FewPlaces(t *testing.T) {
	b := newBoth(t, 2)
	for i, member := range []string{"c", "b", "a"} {
		b.set(member, float64(i))
	}
	for _, row := range []struct {
		from, to int
		want     []string
	}{
		{0, 3, []string{"c", "b", "a"}}, {0, 0, nil}, {3, 3, nil}, {3, 4, nil}, {2, 3, []string{"a"}}, {2, 2, nil}, {2, 1, nil},
		{-1, 0, nil}, {-1, 1, []string{"c"}}, {-3, -1, nil}, {1, 100, []string{"b", "a"}}, {100, 200, nil}, {0, -1, nil},
		{math.MinInt, math.MaxInt, []string{"c", "b", "a"}}, {math.MaxInt, math.MinInt, nil}, {math.MinInt, math.MinInt, nil},
		{math.MaxInt, math.MaxInt, nil}, {math.MinInt, 1, []string{"c"}}, {2, math.MaxInt, []string{"a"}},
	} {
		wantRow(t, "Range("+strconv.Itoa(row.from)+", "+strconv.Itoa(row.to)+")", b.r.Range(row.from, row.to), row.want...)
	}
}

func TestP11_4_ToldInMemoryOfItsOwn(t *testing.T) {
	for _, b := range states(t) {
		n := b.r.Len()
		for _, to := range []int{n, n / 2, 1} {
			first, second := b.r.Range(0, to), b.r.Range(0, to)
			stood := slices.Clone(first)
			for i := range first {
				first[i] = api.Ranked{Member: "written over", Score: 99}
			}
			for range 5 {
				first = append(first, api.Ranked{Member: "behind it", Score: 98})
			}
			if !sameRanked(second, stood) {
				t.Errorf("what was told before shows what was written: %s", short(second))
			}
			holdAll(t, b.r, b.m)
			for _, c := range changes {
				changed := b.copy()
				told := changed.r.Range(0, to)
				c.do(changed)
				if !sameRanked(told, stood) {
					t.Errorf("what was told before shows what was changed later: %s", short(told))
				}
			}
		}
	}
}

func bound(at float64) api.Bound { return api.Bound{At: at} }

func open(at float64) api.Bound { return api.Bound{At: at, Open: true} }

func TestP11_5_ChapterExamples(t *testing.T) {
	b := newBoth(t, 0)
	for _, e := range []api.Ranked{{Member: "b", Score: 1}, {Member: "a", Score: 2}, {Member: "c", Score: nought}, {Member: "d", Score: -inf}} {
		b.set(e.Member, e.Score)
	}
	for _, row := range []struct {
		lo, hi        api.Bound
		first, second int
	}{
		{bound(0), bound(1), 1, 3}, {open(0), bound(1), 2, 3}, {bound(2), open(2), 3, 3}, {bound(-inf), bound(inf), 0, 4},
		{bound(5), bound(-5), 4, 4}, {bound(math.NaN()), bound(1), 0, 0},
		{bound(1), bound(math.NaN()), 0, 0}, {open(math.NaN()), open(math.NaN()), 0, 0}, {bound(2), bound(math.NaN()), 0, 0},
		{bound(2), bound(2), 3, 4}, {open(2), bound(2), 4, 4}, {open(2), open(2), 4, 4},
		{open(-inf), open(inf), 1, 4}, {bound(-inf), open(-inf), 0, 0}, {bound(-inf), bound(-inf), 0, 1}, {open(-inf), bound(-inf), 1, 1},
		{bound(inf), bound(inf), 4, 4}, {bound(inf), bound(-inf), 4, 4}, {open(inf), open(-inf), 4, 4},
		{bound(nought), bound(0), 1, 2}, {bound(0), bound(nought), 1, 2}, {open(0), open(nought), 2, 2}, {open(nought), bound(0), 2, 2},
		{bound(nought), open(0), 1, 1}, {bound(2), bound(1), 3, 3}, {bound(2), bound(-1), 3, 3}, {bound(1.5), bound(0.5), 3, 3},
	} {
		if first, second := b.r.Within(row.lo, row.hi); first != row.first || second != row.second {
			t.Errorf("Within(%v, %v): %d %d, not %d %d", row.lo, row.hi, first, second, row.first, row.second)
		}
	}
}

// everyBound is every edge, open and not, and NaN.
func everyBound() []api.Bound {
	var l []api.Bound
	for _, x := range append(slices.Clone(edges), math.NaN(), 30, 48.5, 96) {
		l = append(l, bound(x), open(x))
	}
	return l
}

// atEdges has members with every edge as a score, three each, and others between.
func atEdges(t *testing.T) both {
	t.Helper()
	b := newBoth(t, 5)
	for i, x := range slices.Backward(edges) {
		for _, member := range []string{"z", "a", ""} {
			b.set(member+strconv.Itoa(i), x)
		}
	}
	return b
}

func TestP11_5_EveryPairOfEnds(t *testing.T) {
	for _, b := range append(states(t), atEdges(t)) {
		for _, lo := range everyBound() {
			for _, hi := range everyBound() {
				holdWithin(t, b.r, b.m, lo, hi)
				if first, second := b.r.Within(lo, hi); first < 0 || second < first || second > b.r.Len() {
					t.Fatalf("Within(%v, %v): %d %d", lo, hi, first, second)
				}
			}
		}
		hold(t, b.r, b.m)
	}
}

func TestP11_6_Cost(t *testing.T) {
	r := New(6)
	for _, row := range []struct {
		name string
		do   func()
		want int64
	}{
		{"new", func() {}, 0},
		{"the empty text", func() { r.Set("", 1) }, 40},
		{"once more", func() { r.Set("", 1) }, 40},
		{"another score", func() { r.Set("", 2) }, 40},
		{"a member", func() { r.Set("abc", 1) }, 83},
		{"a score with more digits", func() { r.Set("abc", 1.0/3) }, 83},
		{"its score once more", func() { r.Set("abc", 1.0/3) }, 83},
		{"too long a text", func() { r.Set(long+"x", 1) }, 83},
		{"no score", func() { r.Set("def", math.NaN()); r.Set("abc", math.NaN()) }, 83},
		{"bytes, not letters", func() { r.Set("é€", -inf) }, 128},
		{"as long as may be", func() { r.Set(long, 0) }, 168 + 1048576},
		{"a nought of the other sign", func() { r.Set(long, nought) }, 168 + 1048576},
		{"to the begin", func() { r.Set(long, -inf) }, 168 + 1048576},
		{"it goes", func() { r.Delete(long) }, 128},
		{"nobody goes", func() { r.Delete("nobody") }, 128},
		{"asked for", func() { r.Score("abc"); r.Rank("nobody"); r.Range(0, 9); r.Within(bound(0), bound(1)) }, 128},
		{"the first goes", func() { r.Delete("") }, 88},
		{"the next goes", func() { r.Delete("abc") }, 45},
		{"the last goes", func() { r.Delete("é€") }, 0},
		{"there is none any more", func() { r.Delete("é€") }, 0},
	} {
		row.do()
		if r.Cost() != row.want || r.Copy().Cost() != row.want || costOfAll(r.Range(0, 9)) != row.want {
			t.Errorf("%s: %d, of the copy %d, not %d", row.name, r.Cost(), r.Copy().Cost(), row.want)
		}
	}
}

func TestP11_7_Copy(t *testing.T) {
	for _, b := range append(states(t), atEdges(t)) {
		c := b.copy()
		if c.r == nil || c.r == b.r {
			t.Fatal("the copy is none, or the same")
		}
		holdAll(t, c.r, c.m)
		holdAll(t, b.r, b.m)
		c = c.copy()
		holdAll(t, c.r, c.m)
	}
}

func TestP11_7_CopyIsApart(t *testing.T) {
	for _, state := range states(t) {
		for _, c := range changes {
			b := state.copy()
			other := b.copy()
			c.do(b)
			holdAll(t, other.r, other.m)
			third := other.copy()
			c.do(other)
			holdAll(t, b.r, b.m)
			holdAll(t, third.r, third.m)
		}
	}
}

// Both go on for long, each its own way.
func TestP11_7_CopyGoesOn(t *testing.T) {
	r := rand.New(rand.NewPCG(7, 7))
	for _, b := range states(t) {
		c := b.copy()
		for range 300 {
			b.anyCall(r, 60, true)
			c.anyCall(r, 60, false)
		}
		holdAll(t, b.r, b.m)
		holdAll(t, c.r, c.m)
	}
}

// What is asked of no ranks, and what they are told: R1.
func TestP11_8_NoRanks(t *testing.T) {
	var r *Ranks
	for _, member := range []string{"", "a", long, long + "x"} {
		for _, x := range append(slices.Clone(edges), math.NaN()) {
			if fresh, code := r.Set(member, x); fresh || code != api.ErrNil {
				t.Errorf("Set: %v %d", fresh, code)
			}
		}
		if x, ok := r.Score(member); !same(x, 0) || ok {
			t.Errorf("Score: %v %v", x, ok)
		}
		if i, ok := r.Rank(member); i != 0 || ok {
			t.Errorf("Rank: %d %v", i, ok)
		}
		if r.Delete(member) {
			t.Error("Delete")
		}
	}
	for _, from := range ends(3) {
		for _, to := range ends(3) {
			if got := r.Range(from, to); len(got) != 0 {
				t.Errorf("Range(%d, %d): %s", from, to, short(got))
			}
		}
	}
	for _, lo := range everyBound() {
		for _, hi := range everyBound() {
			if a, b := r.Within(lo, hi); a != 0 || b != 0 {
				t.Errorf("Within(%v, %v): %d %d", lo, hi, a, b)
			}
		}
	}
	if r.Len() != 0 || r.Cost() != 0 || r.Copy() != nil {
		t.Error(r.Len(), r.Cost(), r.Copy())
	}
}

// Every member at every edge, beside every other one: who is ahead is said by the scores, then by the texts.
func TestP11_9_EveryPair(t *testing.T) {
	for _, x := range edges {
		for _, y := range edges {
			for _, first := range []bool{true, false} {
				r := New(1)
				if first {
					r.Set("a", x)
				}
				r.Set("b", y)
				r.Set("a", x)
				want := []string{"a", "b"}
				if y < x {
					want = []string{"b", "a"}
				}
				wantRow(t, "Range", r.Range(0, 2), want...)
				for i, member := range want {
					if got, ok := r.Rank(member); got != i || !ok {
						t.Errorf("%v and %v: Rank(%s): %d %v", x, y, member, got, ok)
					}
				}
			}
		}
	}
}

// With one score for all they stand by their texts.
func TestP11_9_EqualScores(t *testing.T) {
	for _, x := range edges {
		r := New(2)
		for _, member := range oddTexts {
			r.Set(member, x)
		}
		wantRow(t, "Range", r.Range(0, 100), rising...)
		for i, member := range rising {
			if got, ok := r.Rank(member); got != i || !ok {
				t.Errorf("Rank(%q): %d %v, not %d", member, got, ok, i)
			}
		}
	}
}

// One member goes to each place of few and of many, from the first one to the last one and back.
func TestP11_9_OneGoesThroughAll(t *testing.T) {
	for _, n := range []int{1, 2, 30, 1023, 1024, 1025, 2100} {
		b := newBoth(t, uint64(n))
		for i := range n {
			b.r.Set(name(i), float64(i))
			b.m.set(name(i), float64(i))
		}
		stride := max(1, n/60)
		for i := 0; i <= n; i += stride {
			b.set("walker", float64(i)-0.5)
			if got, ok := b.r.Rank("walker"); got != i || !ok {
				t.Fatalf("Rank: %d %v, not %d", got, ok, i)
			}
		}
		for i := n; i >= 0; i -= stride {
			b.set("walker", float64(i)-0.5)
		}
		holdAll(t, b.r, b.m)
	}
}

// Those who are told of Within's two numbers are just those within, one by one.
func TestP11_10_AStretch(t *testing.T) {
	for _, b := range append(states(t), atEdges(t)) {
		all := b.r.Range(0, b.r.Len())
		for _, lo := range everyBound() {
			for _, hi := range everyBound() {
				holdStretch(t, b.r, all, lo, hi)
			}
		}
	}
}

func holdStretch(t *testing.T, r *Ranks, all []api.Ranked, lo, hi api.Bound) {
	t.Helper()
	var want []api.Ranked
	for _, e := range all {
		if score.Within(e.Score, lo, hi) {
			want = append(want, e)
		}
	}
	if got := r.Range(r.Within(lo, hi)); !sameRanked(got, want) {
		t.Fatalf("from %v to %v: %s, not %s", lo, hi, short(got), short(want))
	}
}

func TestP11_10_AnyStretch(t *testing.T) {
	for round := range uint64(30) {
		r := rand.New(rand.NewPCG(10, round))
		one := New(r.Uint64())
		for range 1 + r.IntN(400) {
			one.Set(anyMember(r, 300), anyScore(r))
		}
		all := one.Range(0, one.Len())
		for range 300 {
			holdStretch(t, one, all, anyBound(r), anyBound(r))
		}
	}
}

// told is all that ranks tell, as one text.
func told(r *Ranks) string {
	var b strings.Builder
	b.WriteString(strconv.Itoa(r.Len()) + " " + strconv.FormatInt(r.Cost(), 10))
	for _, e := range r.Range(0, r.Len()) {
		place, _ := r.Rank(e.Member)
		x, _ := r.Score(e.Member)
		first, second := r.Within(bound(e.Score), open(1.5))
		b.WriteString(" " + strconv.Quote(e.Member) + " " + strconv.FormatUint(math.Float64bits(e.Score), 16) + " " +
			strconv.FormatUint(math.Float64bits(x), 16) + " " + strconv.Itoa(place) + " " + strconv.Itoa(first) + " " + strconv.Itoa(second))
	}
	return b.String()
}

// Few members come in every order there is.
func TestP11_11_EveryOrderOfFew(t *testing.T) {
	l := []api.Ranked{{Member: "b", Score: 1}, {Member: "a", Score: 1}, {Member: "", Score: nought}, {Member: "c", Score: 0}, {Member: "d", Score: -inf}, {Member: "ab", Score: inf}}
	var first string
	var orders int
	var permute func(k int)
	permute = func(k int) {
		if k == len(l) {
			r := New(uint64(orders))
			for _, e := range l {
				r.Set(e.Member, e.Score)
			}
			orders++
			if now := told(r); first == "" {
				first = now
			} else if now != first {
				t.Fatalf("%s\nnot %s", now, first)
			}
			return
		}
		for i := k; i < len(l); i++ {
			l[k], l[i] = l[i], l[k]
			permute(k + 1)
			l[k], l[i] = l[i], l[k]
		}
	}
	permute(0)
	if orders != 720 {
		t.Errorf("%d orders", orders)
	}
}

// Many members come rising, falling and in no order, with other seeds, at once or by way of other scores, and with
// others among them who go again.
func TestP11_11_OtherOrdersAndSeeds(t *testing.T) {
	for _, n := range []int{1, 10, 100, 1024, 1025, 3000} {
		draws := rand.New(rand.NewPCG(11, uint64(n)))
		var l []api.Ranked
		for i := range n {
			x := anyScore(draws)
			if x != x {
				x = 0
			}
			l = append(l, api.Ranked{Member: name(i), Score: x})
		}
		plain := New(0)
		for _, e := range l {
			plain.Set(e.Member, e.Score)
		}
		want := told(plain)
		sorted := plain.Range(0, n)
		for i, seed := range seeds {
			switch i {
			case 0:
				l = slices.Clone(sorted)
			case 1:
				slices.Reverse(l)
			default:
				draws.Shuffle(n, func(i, j int) { l[i], l[j] = l[j], l[i] })
			}
			straight, winding := New(seed), New(seed)
			for _, e := range l {
				straight.Set(e.Member, e.Score)
				winding.Set(e.Member, float64(draws.IntN(100)+5))
				winding.Set("other"+e.Member, e.Score)
			}
			draws.Shuffle(n, func(i, j int) { l[i], l[j] = l[j], l[i] })
			for _, e := range l {
				winding.Delete("other" + e.Member)
				winding.Set(e.Member, 4.5)
				winding.Set(e.Member, e.Score)
			}
			for way, r := range []*Ranks{straight, winding, straight.Copy(), winding.Copy()} {
				if got := told(r); got != want {
					t.Fatalf("%d members, seed %d, way %d: %.300s\nnot %.300s", n, seed, way, got, want)
				}
			}
		}
	}
}

// The same calls are done to ranks of many seeds: they answer alike.
func TestP11_11_WhateverTheSeed(t *testing.T) {
	for round := range uint64(10) {
		var all []*Ranks
		for _, seed := range seeds {
			all = append(all, New(seed))
		}
		r := rand.New(rand.NewPCG(8, round))
		for range 300 {
			member, x, what := anyMember(r, 40), anyScore(r), r.IntN(3)
			first := answer(all[0], what, member, x)
			for i, one := range all[1:] {
				if got := answer(one, what, member, x); got != first {
					t.Fatalf("seeds %d and %d, call %d: %.200s, not %.200s", seeds[i+1], seeds[0], what, got, first)
				}
			}
		}
	}
}

// answer does one call, and tells all that comes of it and all that is there then.
func answer(r *Ranks, what int, member string, x float64) string {
	var ok bool
	var place int
	code := api.OK
	switch what {
	case 0:
		ok, code = r.Set(member, x)
	case 1:
		ok = r.Delete(member)
	case 2:
		place, ok = r.Rank(member)
	}
	return strconv.FormatBool(ok) + " " + strconv.Itoa(int(code)) + " " + strconv.Itoa(place) + " " + told(r)
}
