package rank

import (
	"math"
	"math/rand/v2"
	"slices"
	"strconv"
	"strings"
	"testing"

	"pantry/api"
)

// spelled is the chapter, word by word: one plain list, in which each member stands ahead of the next, and which is
// always gone through from its begin.
type spelled struct{ list []api.Ranked }

// before is DOC.md's order of texts: byte by byte, and a text ahead of every longer one that begins with it.
func before(a, b string) bool {
	for i := range len(a) {
		if i == len(b) || a[i] > b[i] {
			return false
		}
		if a[i] < b[i] {
			return true
		}
	}
	return len(a) < len(b)
}

// standsAhead is the chapter's order.
func standsAhead(a, b api.Ranked) bool {
	if a.Score < b.Score {
		return true
	}
	return a.Score == b.Score && before(a.Member, b.Member)
}

// at tells a member's place, or -1.
func (m *spelled) at(member string) int {
	return slices.IndexFunc(m.list, func(e api.Ranked) bool { return e.Member == member })
}

func (m *spelled) set(member string, x float64) (bool, api.Errno) {
	if len(member) > 1048576 {
		return false, api.ErrLong
	}
	if x != x {
		return false, api.ErrFloat
	}
	i := m.at(member)
	if i >= 0 && m.list[i].Score == x {
		return false, api.OK
	}
	if i < 0 && len(m.list) == 1048576 {
		return false, api.ErrFull
	}
	m.delete(member)
	e := api.Ranked{Member: member, Score: x}
	place := 0
	for place < len(m.list) && standsAhead(m.list[place], e) {
		place++
	}
	m.list = slices.Concat(m.list[:place], []api.Ranked{e}, m.list[place:])
	return i < 0, api.OK
}

func (m *spelled) delete(member string) bool {
	i := m.at(member)
	if i < 0 {
		return false
	}
	m.list = slices.Concat(m.list[:i], m.list[i+1:])
	return true
}

func (m *spelled) score(member string) (float64, bool) {
	i := m.at(member)
	if i < 0 {
		return 0, false
	}
	return m.list[i].Score, true
}

func (m *spelled) rank(member string) (int, bool) {
	i := m.at(member)
	return max(i, 0), i >= 0
}

// stretch looks at each place there is, whether it is asked for.
func (m *spelled) stretch(from, to int) []api.Ranked {
	var l []api.Ranked
	for i, e := range m.list {
		if from <= i && i < to {
			l = append(l, e)
		}
	}
	return l
}

func (m *spelled) within(lo, hi api.Bound) (int, int) {
	if lo.At != lo.At || hi.At != hi.At {
		return 0, 0
	}
	first, second := 0, 0
	for _, e := range m.list {
		if e.Score < lo.At || lo.Open && e.Score == lo.At {
			first++
		}
		if e.Score < hi.At || !hi.Open && e.Score == hi.At {
			second++
		}
	}
	if second < first {
		second = first
	}
	return first, second
}

func (m *spelled) cost() int64 { return costOfAll(m.list) }

func costOfAll(l []api.Ranked) int64 {
	sum := int64(0)
	for _, e := range l {
		sum += 40
		sum += int64(len(e.Member))
	}
	return sum
}

func (m *spelled) copy() *spelled { return &spelled{slices.Clone(m.list)} }

// same says whether two floats are one answer: a nought has a sign.
func same(a, b float64) bool { return math.Float64bits(a) == math.Float64bits(b) || a != a && b != b }

func sameRanked(a, b []api.Ranked) bool {
	return slices.EqualFunc(a, b, func(x, y api.Ranked) bool { return x.Member == y.Member && same(x.Score, y.Score) })
}

// short tells members so that they can be read, also if there are many or long ones.
func short(l []api.Ranked) string {
	var b strings.Builder
	b.WriteString(strconv.Itoa(len(l)) + ":")
	for _, e := range l[:min(len(l), 30)] {
		b.WriteString(" " + strconv.Quote(e.Member[:min(len(e.Member), 20)]) + " " + strconv.FormatFloat(e.Score, 'g', -1, 64))
	}
	return b.String()
}

// hold compares what is told of all members together, and of some of them.
func hold(t *testing.T, r *Ranks, m *spelled) {
	t.Helper()
	n := len(m.list)
	if got := r.Range(0, n); !sameRanked(got, m.list) {
		t.Fatalf("Range of all: %s, not %s", short(got), short(m.list))
	}
	if r.Len() != n {
		t.Fatalf("Len: %d, not %d", r.Len(), n)
	}
	if r.Cost() != m.cost() {
		t.Fatalf("Cost: %d, not %d", r.Cost(), m.cost())
	}
	for _, i := range []int{0, 1, n / 3, n / 2, n - 2, n - 1} {
		if i >= 0 && i < n {
			holdPlace(t, r, m, i)
		}
	}
}

func holdPlace(t *testing.T, r *Ranks, m *spelled, i int) {
	t.Helper()
	e := m.list[i]
	if got, ok := r.Rank(e.Member); got != i || !ok {
		t.Fatalf("Rank(%.40q): %d %v, not %d", e.Member, got, ok, i)
	}
	if got, ok := r.Score(e.Member); !same(got, e.Score) || !ok {
		t.Fatalf("Score(%.40q): %v %v, not %v", e.Member, got, ok, e.Score)
	}
	if got := r.Range(i, i+1); !sameRanked(got, m.list[i:i+1]) {
		t.Fatalf("Range(%d, %d): %s, not %s", i, i+1, short(got), short(m.list[i:i+1]))
	}
}

// holdAll compares every place, and the stretches from and to every score.
func holdAll(t *testing.T, r *Ranks, m *spelled) {
	t.Helper()
	hold(t, r, m)
	for i := range m.list {
		holdPlace(t, r, m, i)
	}
	for i := range m.list {
		for _, open := range []bool{false, true} {
			holdWithin(t, r, m, api.Bound{At: m.list[i].Score, Open: open}, api.Bound{At: m.list[len(m.list)-1-i].Score, Open: open})
		}
	}
}

func holdWithin(t *testing.T, r *Ranks, m *spelled, lo, hi api.Bound) {
	t.Helper()
	first, second := r.Within(lo, hi)
	if a, b := m.within(lo, hi); first != a || second != b {
		t.Fatalf("Within(%v, %v) of %s: %d %d, not %d %d", lo, hi, short(m.list), first, second, a, b)
	}
}

// both is ranks and the chapter's words beside them, to which the same is done.
type both struct {
	t *testing.T
	r *Ranks
	m *spelled
}

func newBoth(t *testing.T, seed uint64) both { return both{t, New(seed), &spelled{}} }

func name(i int) string { return "m" + strconv.Itoa(i) }

// filled has n members m0, m1 and so on, with few different scores, that come in no order.
func filled(t *testing.T, seed uint64, n int) both {
	t.Helper()
	b := newBoth(t, seed)
	for i := range n {
		x := float64(i * 7919 % 97)
		b.r.Set(name(i), x)
		b.m.set(name(i), x)
	}
	hold(t, b.r, b.m)
	return b
}

func (b both) copy() both { return both{b.t, b.r.Copy(), b.m.copy()} }

func (b both) set(member string, x float64) {
	b.t.Helper()
	got, code := b.r.Set(member, x)
	if want, is := b.m.set(member, x); got != want || code != is {
		b.t.Fatalf("Set(%.40q, %v): %v %d, not %v %d", member, x, got, code, want, is)
	}
	hold(b.t, b.r, b.m)
}

func (b both) delete(member string) {
	b.t.Helper()
	if got, want := b.r.Delete(member), b.m.delete(member); got != want {
		b.t.Fatalf("Delete(%.40q): %v, not %v", member, got, want)
	}
	hold(b.t, b.r, b.m)
}

// ask asks all that can be asked of one member, there or not.
func (b both) ask(member string) {
	b.t.Helper()
	x, there := b.m.score(member)
	if got, ok := b.r.Score(member); !same(got, x) || ok != there {
		b.t.Fatalf("Score(%.40q): %v %v, not %v %v", member, got, ok, x, there)
	}
	place, _ := b.m.rank(member)
	if got, ok := b.r.Rank(member); got != place || ok != there {
		b.t.Fatalf("Rank(%.40q): %d %v, not %d %v", member, got, ok, place, there)
	}
	hold(b.t, b.r, b.m)
}

// stretch asks for places, and for a stretch of scores.
func (b both) stretch(from, to int, lo, hi api.Bound) {
	b.t.Helper()
	if got, want := b.r.Range(from, to), b.m.stretch(from, to); !sameRanked(got, want) {
		b.t.Fatalf("Range(%d, %d) of %d: %s, not %s", from, to, len(b.m.list), short(got), short(want))
	}
	holdWithin(b.t, b.r, b.m, lo, hi)
}

// anyText is mostly short, at times empty, of any bytes, seldom as long as a text may be or one byte longer.
func anyText(r *rand.Rand) string {
	switch x := r.IntN(4000); {
	case x == 0:
		return long
	case x == 1:
		return long + "x"
	case x < 200:
		return ""
	case x < 400:
		return string([]byte{byte(r.UintN(256)), byte(r.UintN(256))})
	}
	return strconv.Itoa(r.IntN(100000))
}

// anyMember is one of so many, or seldom another text.
func anyMember(r *rand.Rand, many int) string {
	if r.IntN(20) == 0 {
		return anyText(r)
	}
	return name(r.IntN(many))
}

// anyScore is one of few, so that many are equal, or one at an edge, or any float at all, seldom NaN.
func anyScore(r *rand.Rand) float64 {
	switch x := r.IntN(100); {
	case x == 0:
		return math.NaN()
	case x < 30:
		return edges[r.IntN(len(edges))]
	case x < 50:
		return math.Float64frombits(r.Uint64())
	}
	return float64(r.IntN(9)-4) / 2
}

func anyBound(r *rand.Rand) api.Bound { return api.Bound{At: anyScore(r), Open: r.IntN(2) == 0} }

// anyCall does one call at random. Where members rather come there are more in the end.
func (b both) anyCall(r *rand.Rand, many int, coming bool) {
	b.t.Helper()
	switch x := r.IntN(100); {
	case x < 10:
		b.ask(anyMember(r, many))
	case x < 20:
		b.stretch(r.IntN(many+4)-2, r.IntN(many+4)-2, anyBound(r), anyBound(r))
	case coming == (x < 85):
		b.set(anyMember(r, many), anyScore(r))
	default:
		b.delete(anyMember(r, many))
	}
}

// TestP11_9_AnyCalls does calls at random, with tides in which members rather come and tides in which they rather go.
func TestP11_9_AnyCalls(t *testing.T) {
	for round := range 40 {
		r := rand.New(rand.NewPCG(11, uint64(round)))
		b := newBoth(t, r.Uint64())
		many := []int{3, 12, 60, 300}[round%4]
		for i := range 1500 {
			if i%100 == 99 {
				holdAll(t, b.r, b.m)
				b = b.copy()
			}
			b.anyCall(r, many, i/400%2 == 0)
		}
	}
}

// TestP11_9_ManyMembers does the same where there are so many that they stand in several rows: thousands come, get
// other scores, and nearly all go, from anywhere, from the begin, or from the end.
func TestP11_9_ManyMembers(t *testing.T) {
	for round, many := range []int{1500, 3000, 6000} {
		r := rand.New(rand.NewPCG(12, uint64(round)))
		b := newBoth(t, r.Uint64())
		for b.r.Len() < many {
			member, x := anyMember(r, 2*many), anyScore(r)
			b.r.Set(member, x)
			b.m.set(member, x)
		}
		holdAll(t, b.r, b.m)
		for range 300 {
			b.anyCall(r, many, true)
		}
		c := b.copy()
		for b.r.Len() > 5 {
			place := r.IntN(b.r.Len())
			switch round {
			case 1:
				place = 0
			case 2:
				place = b.r.Len() - 1
			}
			member := b.m.list[place].Member
			if b.r.Len()%50 == 0 {
				b.delete(member)
				b.anyCall(r, many, true)
			}
			b.r.Delete(member)
			b.m.delete(member)
		}
		holdAll(t, b.r, b.m)
		for range 300 {
			b.anyCall(r, many, true)
		}
		holdAll(t, c.r, c.m)
	}
}

// TestP11_9_EveryShortHistory does every row of a few calls.
func TestP11_9_EveryShortHistory(t *testing.T) {
	acts := []func(b both){
		func(b both) { b.set("", 1) },
		func(b both) { b.set("a", 1) },
		func(b both) { b.set("a", 0) },
		func(b both) { b.set("a", nought) },
		func(b both) { b.set("b", 1) },
		func(b both) { b.set("b", -inf) },
		func(b both) { b.set("b", math.NaN()) },
		func(b both) { b.delete("a") },
		func(b both) { b.delete("b") },
		func(b both) { b.ask("a") },
	}
	const calls = 5
	rows := 1
	for range calls {
		rows *= len(acts)
	}
	for row := range rows {
		b := newBoth(t, uint64(row))
		for rest, n := row, 0; n < calls; rest, n = rest/len(acts), n+1 {
			acts[rest%len(acts)](b)
		}
		holdAll(t, b.r, b.m)
	}
}
