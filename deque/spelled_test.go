package deque

import (
	"math"
	"math/rand/v2"
	"slices"
	"strconv"
	"strings"
	"testing"

	"pantry/api"
)

// spelled is the chapter's section A row in chunks, word by word and without a thought of how long it takes. Beside
// the chunks stands a plain row, to which the same is done: it knows nothing of chunks.
type spelled struct {
	chunks [][]string
	row    []string
}

func (m *spelled) refuse(s string) api.Errno {
	if len(s) > 1048576 {
		return api.ErrLong
	}
	if len(m.row) == 1048576 {
		return api.ErrFull
	}
	return api.OK
}

func (m *spelled) push(ahead bool, s string) api.Errno {
	if code := m.refuse(s); code != api.OK {
		return code
	}
	if ahead {
		m.row = slices.Concat([]string{s}, m.row)
		if len(m.chunks) > 0 && len(m.chunks[0]) < 32 {
			m.chunks[0] = slices.Concat([]string{s}, m.chunks[0])
		} else {
			m.chunks = slices.Concat([][]string{{s}}, m.chunks)
		}
		return api.OK
	}
	m.row = slices.Concat(m.row, []string{s})
	if last := len(m.chunks) - 1; last >= 0 && len(m.chunks[last]) < 32 {
		m.chunks[last] = slices.Concat(m.chunks[last], []string{s})
	} else {
		m.chunks = append(m.chunks, []string{s})
	}
	return api.OK
}

// holds tells the chunk that holds a place, and the place within it.
func (m *spelled) holds(i int) (k, p int) {
	for i >= len(m.chunks[k]) {
		i -= len(m.chunks[k])
		k++
	}
	return k, i
}

func (m *spelled) insert(i int, s string) api.Errno {
	if i < 0 || i > len(m.row) {
		return api.ErrArg
	}
	if code := m.refuse(s); code != api.OK {
		return code
	}
	k, p := len(m.chunks)-1, 0
	switch {
	case i < len(m.row):
		k, p = m.holds(i)
	case k >= 0:
		p = len(m.chunks[k])
	default:
		m.chunks, k = [][]string{nil}, 0
	}
	m.row = slices.Concat(m.row[:i], []string{s}, m.row[i:])
	if c := m.chunks[k]; len(c) == 32 {
		m.chunks = slices.Concat(m.chunks[:k], [][]string{c[:16], c[16:]}, m.chunks[k+1:])
		if p >= 16 {
			k, p = k+1, p-16
		}
	}
	c := m.chunks[k]
	m.chunks[k] = slices.Concat(c[:p], []string{s}, c[p:])
	return api.OK
}

func (m *spelled) there(i int) bool { return i >= 0 && i < len(m.row) }

func (m *spelled) remove(i int) bool {
	if !m.there(i) {
		return false
	}
	k, p := m.holds(i)
	c := m.chunks[k]
	m.chunks[k] = slices.Concat(c[:p], c[p+1:])
	if len(m.chunks[k]) == 0 {
		m.chunks = slices.Concat(m.chunks[:k], m.chunks[k+1:])
	}
	m.row = slices.Concat(m.row[:i], m.row[i+1:])
	return true
}

func (m *spelled) at(i int) (string, bool) {
	if !m.there(i) {
		return "", false
	}
	return m.row[i], true
}

func (m *spelled) pop(first bool) (string, bool) {
	i := 0
	if !first {
		i = len(m.row) - 1
	}
	s, ok := m.at(i)
	m.remove(i)
	return s, ok
}

func (m *spelled) set(i int, s string) bool {
	if !m.there(i) || len(s) > 1048576 {
		return false
	}
	k, p := m.holds(i)
	m.chunks[k] = slices.Concat(m.chunks[k][:p], []string{s}, m.chunks[k][p+1:])
	m.row = slices.Concat(m.row[:i], []string{s}, m.row[i+1:])
	return true
}

// trim takes away text by text, the last place first, so that the places ahead of it stay what they are.
func (m *spelled) trim(from, to int) {
	if from < 0 {
		from = 0
	}
	if to > len(m.row) {
		to = len(m.row)
	}
	for i := len(m.row) - 1; i >= 0; i-- {
		if i < from || i >= to {
			m.remove(i)
		}
	}
}

func (m *spelled) counts() []int {
	var l []int
	for _, c := range m.chunks {
		l = append(l, len(c))
	}
	return l
}

func (m *spelled) cost() int64 {
	sum := int64(0)
	for _, s := range m.row {
		sum += 16 + int64(len(s))
	}
	return sum
}

func (m *spelled) copy() *spelled {
	return &spelled{chunks: slices.Clone(m.chunks), row: slices.Clone(m.row)}
}

// texts collects what a deque goes through, and sees to it that the places rise from 0 on.
func texts(t *testing.T, d *Deque) []string {
	t.Helper()
	var l []string
	for i, s := range d.Each() {
		if i != len(l) {
			t.Fatalf("Each tells the place %d behind %d texts", i, len(l))
		}
		l = append(l, s)
	}
	return l
}

// hold compares all that can be seen of a deque with what the chapter says.
func hold(t *testing.T, d *Deque, m *spelled) {
	t.Helper()
	if got := d.Len(); got != len(m.row) {
		t.Fatalf("Len: %d, not %d", got, len(m.row))
	}
	if got, want := d.Chunks(), m.counts(); !slices.Equal(got, want) {
		t.Fatalf("Chunks: %v, not %v", got, want)
	}
	if got, want := d.Cost(), m.cost(); got != want {
		t.Fatalf("Cost: %d, not %d", got, want)
	}
	if got := texts(t, d); !slices.Equal(got, m.row) {
		t.Fatalf("Each: %s, not %s", short(got), short(m.row))
	}
	for i := -1; i <= len(m.row); i++ {
		got, ok := d.At(i)
		if want, wok := m.at(i); got != want || ok != wok {
			t.Fatalf("At(%d): %.40q %v, not %.40q %v", i, got, ok, want, wok)
		}
	}
}

// short tells a row so that it can be read, also if its texts are long.
func short(l []string) string {
	var b strings.Builder
	for _, s := range l {
		b.WriteString(strconv.Quote(s[:min(len(s), 20)]) + " ")
	}
	return b.String()
}

// both is a deque and the chapter's words beside it, to which the same is done.
type both struct {
	t *testing.T
	d *Deque
	m *spelled
}

func newBoth(t *testing.T) both { return both{t, New(), &spelled{}} }

// filled has so many texts, a0, a1 and so on, pushed behind.
func filled(t *testing.T, n int) both {
	t.Helper()
	b := newBoth(t)
	for i := range n {
		s := name(i)
		b.d.Push(false, s)
		b.m.push(false, s)
	}
	hold(t, b.d, b.m)
	return b
}

// shaped has chunks of these numbers of texts.
func shaped(t *testing.T, counts ...int) both {
	t.Helper()
	b := filled(t, 32*len(counts))
	for k := len(counts) - 1; k >= 0; k-- {
		for p := 31; p >= counts[k]; p-- {
			b.d.Remove(32*k + p)
			b.m.remove(32*k + p)
		}
	}
	hold(t, b.d, b.m)
	b.chunks(counts...)
	return b
}

func name(i int) string { return "a" + strconv.Itoa(i) }

func (b both) copy() both { return both{b.t, b.d.Copy(), b.m.copy()} }

func (b both) push(ahead bool, s string) {
	b.t.Helper()
	if got, want := b.d.Push(ahead, s), b.m.push(ahead, s); got != want {
		b.t.Fatalf("Push(%v, %.40q): %d, not %d", ahead, s, got, want)
	}
	hold(b.t, b.d, b.m)
}

func (b both) pop(first bool) {
	b.t.Helper()
	got, ok := b.d.Pop(first)
	if want, wok := b.m.pop(first); got != want || ok != wok {
		b.t.Fatalf("Pop(%v): %.40q %v, not %.40q %v", first, got, ok, want, wok)
	}
	hold(b.t, b.d, b.m)
}

func (b both) set(i int, s string) {
	b.t.Helper()
	if got, want := b.d.Set(i, s), b.m.set(i, s); got != want {
		b.t.Fatalf("Set(%d, %.40q): %v, not %v", i, s, got, want)
	}
	hold(b.t, b.d, b.m)
}

func (b both) insert(i int, s string) {
	b.t.Helper()
	if got, want := b.d.Insert(i, s), b.m.insert(i, s); got != want {
		b.t.Fatalf("Insert(%d, %.40q): %d, not %d", i, s, got, want)
	}
	hold(b.t, b.d, b.m)
}

func (b both) remove(i int) {
	b.t.Helper()
	if got, want := b.d.Remove(i), b.m.remove(i); got != want {
		b.t.Fatalf("Remove(%d): %v, not %v", i, got, want)
	}
	hold(b.t, b.d, b.m)
}

func (b both) trim(from, to int) {
	b.t.Helper()
	b.d.Trim(from, to)
	b.m.trim(from, to)
	hold(b.t, b.d, b.m)
}

// chunks says what the test means to have come to, so that it does not pass by way of some other state.
func (b both) chunks(counts ...int) {
	b.t.Helper()
	if got := b.d.Chunks(); !slices.Equal(got, counts) {
		b.t.Fatalf("Chunks: %v, not %v", got, counts)
	}
}

// addsUp asks P7.11's second half by itself.
func (b both) addsUp() {
	b.t.Helper()
	sum := 0
	for _, n := range b.d.Chunks() {
		if n < 1 || n > 32 {
			b.t.Fatalf("a chunk of %d: %v", n, b.d.Chunks())
		}
		sum += n
	}
	if sum != b.d.Len() {
		b.t.Fatalf("the chunks add up to %d, not to %d", sum, b.d.Len())
	}
}

// anyText is mostly short, at times empty, of any bytes, seldom as long as a text may be or one byte longer.
func anyText(r *rand.Rand) string {
	switch x := r.IntN(2000); {
	case x == 0:
		return long
	case x == 1:
		return long + "x"
	case x < 200:
		return ""
	case x < 400:
		return string([]byte{byte(r.UintN(256)), byte(r.UintN(256))})
	}
	return strconv.Itoa(r.IntN(1000))
}

// anyPlace is one of 0 to n, or near by, or far off.
func anyPlace(r *rand.Rand, n int) int {
	switch r.IntN(40) {
	case 0:
		return -1 - r.IntN(3)
	case 1:
		return n + r.IntN(3)
	case 2:
		return []int{math.MinInt, math.MinInt + 1, math.MaxInt, math.MaxInt - 1}[r.IntN(4)]
	case 3:
		return 0
	}
	return r.IntN(n + 1)
}

// TestP7_11_AnyCalls does calls at random, with tides in which texts rather come and tides in which they rather go.
func TestP7_11_AnyCalls(t *testing.T) {
	for round := range 24 {
		r := rand.New(rand.NewPCG(7, uint64(round)))
		b := newBoth(t)
		for i := range 1200 {
			n := len(b.m.row)
			coming := i/200%2 == 0
			switch x := r.IntN(1000); {
			case x < 3:
				b.trim(anyPlace(r, n), anyPlace(r, n))
			case x < 50:
				b.trim(r.IntN(3), n-r.IntN(3))
			case x < 150:
				b.set(anyPlace(r, n), anyText(r))
			case x < 200:
				b = b.copy()
			case coming == (x < 800) && round%3 == 0:
				b.push(r.IntN(2) == 0, anyText(r))
			case coming == (x < 800):
				b.insert(anyPlace(r, n), anyText(r))
			case round%2 == 0:
				b.pop(r.IntN(2) == 0)
			default:
				b.remove(anyPlace(r, n))
			}
			b.addsUp()
		}
	}
}

// TestP7_11_EveryShortHistory does every row of a few calls on chunks that are nearly, or quite, full or empty.
func TestP7_11_EveryShortHistory(t *testing.T) {
	acts := []func(b both){
		func(b both) { b.push(true, "x") },
		func(b both) { b.push(false, "y") },
		func(b both) { b.pop(true) },
		func(b both) { b.pop(false) },
		func(b both) { b.insert(b.d.Len(), "z") },
		func(b both) { b.insert(b.d.Len()/2, "m") },
		func(b both) { b.insert(0, "b") },
		func(b both) { b.remove(b.d.Len() / 2) },
		func(b both) { b.remove(1) },
		func(b both) { b.trim(1, b.d.Len()-1) },
		func(b both) { b.set(b.d.Len()/2, "s") },
	}
	const calls = 3
	rows := 1
	for range calls {
		rows *= len(acts)
	}
	for _, counts := range [][]int{{}, {1}, {2}, {31}, {32}, {1, 1}, {1, 32}, {32, 1}, {1, 1, 1}, {31, 1, 31}} {
		begin := shaped(t, counts...)
		for row := range rows {
			b := begin.copy()
			for rest, n := row, 0; n < calls; rest, n = rest/len(acts), n+1 {
				acts[rest%len(acts)](b)
			}
			b.addsUp()
		}
		hold(t, begin.d, begin.m)
	}
}
