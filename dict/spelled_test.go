package dict

import (
	"maps"
	"math/rand/v2"
	"slices"
	"strconv"
	"testing"

	"pantry/draw"
)

// spelled is the chapter's section How it lies, word by word and without a thought of how long it takes: chains are
// lists of keys with the head first, and the values lie beside them.
type spelled struct {
	seed       uint64
	old, young [][]string
	at         int
	values     map[string]int
}

func newSpelled(seed uint64) *spelled { return &spelled{seed: seed, values: map[string]int{}} }

func (m *spelled) bucket(table [][]string, key string) int {
	return int(draw.Hash(m.seed, key) % uint64(len(table)))
}

func (m *spelled) head(table [][]string, key string) {
	i := m.bucket(table, key)
	table[i] = append([]string{key}, table[i]...)
}

func (m *spelled) step() {
	if len(m.young) == 0 {
		return
	}
	first := m.at
	for first < len(m.old) && first < m.at+10 && len(m.old[first]) == 0 {
		first++
	}
	m.at = first
	if m.at < len(m.old) && len(m.old[m.at]) != 0 {
		for _, key := range m.old[m.at] {
			m.head(m.young, key)
		}
		m.old[m.at] = nil
		m.at++
	}
	if m.at == len(m.old) {
		m.old, m.young, m.at = m.young, nil, 0
	}
}

func (m *spelled) get(key string) (int, bool) {
	m.step()
	v, ok := m.values[key]
	return v, ok
}

func (m *spelled) set(key string, v int) bool {
	m.step()
	_, there := m.values[key]
	if !there {
		if len(m.old) == 0 {
			m.old = make([][]string, 4)
		}
		if len(m.young) == 0 && len(m.values) >= len(m.old) {
			m.young = make([][]string, 2*len(m.old))
		}
		if len(m.young) != 0 {
			m.head(m.young, key)
		} else {
			m.head(m.old, key)
		}
	}
	m.values[key] = v
	return !there
}

func (m *spelled) delete(key string) bool {
	m.step()
	if _, there := m.values[key]; !there {
		return false
	}
	delete(m.values, key)
	for _, table := range [][][]string{m.old, m.young} {
		for i, chain := range table {
			if j := slices.Index(chain, key); j >= 0 {
				table[i] = slices.Concat(chain[:j], chain[j+1:])
			}
		}
	}
	if len(m.young) == 0 && len(m.old) > 4 && 8*len(m.values) <= len(m.old) {
		n := 1
		for n < 4 || n < len(m.values) {
			n *= 2
		}
		m.young = make([][]string, n)
	}
	return true
}

func (m *spelled) clear() { *m = *newSpelled(m.seed) }

// numbered is what Sample numbers: the buckets of old from at on and those of young.
func (m *spelled) numbered() [][]string { return slices.Concat(m.old[m.at:], m.young) }

func (m *spelled) each() []string { return slices.Concat(m.numbered()...) }

func (m *spelled) sample(r uint64) (string, bool) {
	if len(m.values) == 0 {
		return "", false
	}
	rows := m.numbered()
	total := uint64(len(rows))
	for i := range total {
		if row := rows[(r%total+i)%total]; len(row) != 0 {
			return row[(r/total)%uint64(len(row))], true
		}
	}
	panic("keys, and no bucket that has one")
}

// hold compares all that can be seen of a dict with what the chapter says. It calls nothing that does a step.
func hold(t *testing.T, d *Dict[int], m *spelled) {
	t.Helper()
	if got := d.Len(); got != len(m.values) {
		t.Fatalf("Len: %d, not %d", got, len(m.values))
	}
	if a, b, c := d.Sizes(); a != len(m.old) || b != len(m.young) || c != m.at {
		t.Fatalf("Sizes: %d %d %d, not %d %d %d", a, b, c, len(m.old), len(m.young), m.at)
	}
	for n, table := range [][][]string{m.old, m.young} {
		for i, chain := range table {
			if got := d.Bucket(n, i); !slices.Equal(got, chain) {
				t.Fatalf("Bucket(%d, %d): %q, not %q", n, i, got, chain)
			}
		}
		if got := d.Bucket(n, len(table)); len(got) != 0 {
			t.Fatalf("Bucket(%d, %d) behind the last one: %q", n, len(table), got)
		}
	}
	var keys []string
	for k, v := range d.Each() {
		keys = append(keys, k)
		if want, ok := m.values[k]; !ok || v != want {
			t.Fatalf("Each: %q with %d, not %d (%v)", k, v, want, ok)
		}
	}
	if want := m.each(); !slices.Equal(keys, want) {
		t.Fatalf("Each: %q, not %q", keys, want)
	}
}

func holdSamples(t *testing.T, d *Dict[int], m *spelled, numbers ...uint64) {
	t.Helper()
	for _, r := range numbers {
		got, ok := d.Sample(r)
		if want, wok := m.sample(r); got != want || ok != wok {
			t.Fatalf("Sample(%d): %q %v, not %q %v", r, got, ok, want, wok)
		}
	}
}

// both is a dict and the chapter's words beside it, to which the same is done.
type both struct {
	t *testing.T
	d *Dict[int]
	m *spelled
}

func newBoth(t *testing.T, seed uint64) both { return both{t, New[int](seed), newSpelled(seed)} }

func (b both) get(key string) {
	b.t.Helper()
	v, ok := b.d.Get(key)
	if want, wok := b.m.get(key); v != want || ok != wok {
		b.t.Fatalf("Get(%q): %d %v, not %d %v", key, v, ok, want, wok)
	}
	hold(b.t, b.d, b.m)
}

func (b both) set(key string, v int) {
	b.t.Helper()
	if got, want := b.d.Set(key, v), b.m.set(key, v); got != want {
		b.t.Fatalf("Set(%q): %v, not %v", key, got, want)
	}
	hold(b.t, b.d, b.m)
}

func (b both) delete(key string) {
	b.t.Helper()
	if got, want := b.d.Delete(key), b.m.delete(key); got != want {
		b.t.Fatalf("Delete(%q): %v, not %v", key, got, want)
	}
	hold(b.t, b.d, b.m)
}

func (b both) clear() {
	b.t.Helper()
	b.d.Clear()
	b.m.clear()
	hold(b.t, b.d, b.m)
}

// sizes says what the test means to have come to, so that it does not pass by way of some other state.
func (b both) sizes(old, young, at int) {
	b.t.Helper()
	if x, y, z := b.d.Sizes(); x != old || y != young || z != at {
		b.t.Fatalf("Sizes: %d %d %d, not %d %d %d", x, y, z, old, young, at)
	}
}

// settle asks until nothing is moving.
func (b both) settle() {
	b.t.Helper()
	old, _, _ := b.d.Sizes()
	for range old {
		b.get("")
	}
	if _, young, _ := b.d.Sizes(); young != 0 {
		b.t.Fatal("it goes on moving")
	}
}

// anyKeys are keys of all sorts: no text, bytes that are no UTF-8, texts that begin one another.
func anyKeys(n int) []string {
	keys := []string{"", "\x00", "\x00\x00", "\xff", "\xff\xfe", "\xc3", "é", "a", "ab", "abc", "key with blanks", "\r\n"}
	for i := range n {
		keys = append(keys, strconv.Itoa(i))
	}
	return keys[:n]
}

// TestP5_7_AnyCalls does calls at random, with tides in which keys rather come and tides in which they rather go.
func TestP5_7_AnyCalls(t *testing.T) {
	for _, n := range []int{1, 3, 6, 20, 120} {
		for round := range 6 {
			rnd := rand.New(rand.NewPCG(uint64(n), uint64(round)))
			b := newBoth(t, rnd.Uint64())
			keys := anyKeys(n)
			for i := range 1500 {
				key := keys[rnd.IntN(n)]
				coming := i/150%2 == 0
				switch x := rnd.IntN(1000); {
				case x < 2:
					b.clear()
				case x < 200:
					b.get(key)
				case coming == (x < 850):
					b.set(key, i)
				default:
					b.delete(key)
				}
				holdSamples(t, b.d, b.m, rnd.Uint64(), rnd.Uint64N(64), 0)
			}
		}
	}
}

// TestP5_7_EveryShortHistory does every row of a few calls, on none to six keys that are there at first.
func TestP5_7_EveryShortHistory(t *testing.T) {
	keys := []string{"", "a", "b", "c", "d", "e"}
	acts := []func(b both){
		func(b both) { b.delete("") },
		func(b both) { b.delete("a") },
		func(b both) { b.delete("d") },
		func(b both) { b.set("b", 20) },
		func(b both) { b.set("d", 21) },
		func(b both) { b.set("e", 22) },
		func(b both) { b.get("b") },
		func(b both) { b.get("none") },
		both.clear,
	}
	const calls = 4
	rows := 1
	for range calls {
		rows *= len(acts)
	}
	for first := range len(keys) + 1 {
		for row := range rows {
			b := newBoth(t, uint64(row%3))
			for i, key := range keys[:first] {
				b.set(key, i)
			}
			for rest, n := row, 0; n < calls; rest, n = rest/len(acts), n+1 {
				acts[rest%len(acts)](b)
			}
		}
	}
}

// TestP5_8_EachInItsPlace asks the promise itself, without the words of how it lies.
func TestP5_8_EachInItsPlace(t *testing.T) {
	for seed := range uint64(8) {
		rnd := rand.New(rand.NewPCG(5, seed))
		d := New[int](seed)
		there := map[string]int{}
		inPlace(t, d, seed, there)
		for i := range 4000 {
			key := strconv.Itoa(rnd.IntN(200))
			switch coming := i/400%2 == 0; {
			case rnd.IntN(5) == 0:
				d.Get(key)
			case coming == (rnd.IntN(10) > 0):
				d.Set(key, i)
				there[key] = i
			default:
				d.Delete(key)
				delete(there, key)
			}
			inPlace(t, d, seed, there)
		}
	}
}

func inPlace(t *testing.T, d *Dict[int], seed uint64, there map[string]int) {
	t.Helper()
	old, young, at := d.Sizes()
	for _, n := range []int{old, young} {
		if n != 0 && (n < 4 || n&(n-1) != 0) {
			t.Fatalf("a table of %d buckets", n)
		}
	}
	if young != 0 && old == young || at < 0 || at > 0 && at >= old || young == 0 && at != 0 {
		t.Fatalf("Sizes: %d %d %d", old, young, at)
	}
	stands := map[string]int{}
	for table, n := range []int{old, young} {
		for i := range n {
			chain := d.Bucket(table, i)
			if table == 0 && i < at && len(chain) != 0 {
				t.Fatalf("ahead of at, %d, the bucket %d holds %q", at, i, chain)
			}
			for _, key := range chain {
				stands[key]++
				if want := draw.Hash(seed, key) % uint64(n); uint64(i) != want {
					t.Fatalf("%q stands in the bucket %d of %d, not in %d", key, i, n, want)
				}
			}
		}
	}
	for key, times := range stands {
		if _, ok := there[key]; times != 1 || !ok {
			t.Fatalf("%q stands %d times, and is there: %v", key, times, ok)
		}
	}
	if len(stands) != len(there) {
		t.Fatalf("%d keys stand in chains, %d are there: %q", len(stands), len(there), slices.Sorted(maps.Keys(there)))
	}
}
