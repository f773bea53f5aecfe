package pool

import (
	"slices"
	"strconv"
	"testing"

	"pantry/api"
)

// spelled is the chapter, word by word: keys with their ranks in no order, of which the soonest and the last are
// sought whenever they are asked for.
type spelled struct {
	most  int
	ranks map[string]uint64
}

// ahead is DOC.md's order of texts: byte by byte, and a text ahead of every longer one that begins with it.
func ahead(a, b string) bool {
	for i := range len(a) {
		if i == len(b) || a[i] > b[i] {
			return false
		}
		if a[i] < b[i] {
			return true
		}
	}
	return len(a) < len(b)
}

func sooner(a, b api.Candidate) bool {
	if a.Rank == b.Rank {
		return ahead(a.Key, b.Key)
	}
	return a.Rank < b.Rank
}

func (m *spelled) offer(c api.Candidate) bool {
	if _, kept := m.ranks[c.Key]; kept || len(m.ranks) < m.most {
		m.ranks[c.Key] = c.Rank
		return true
	}
	all := m.candidates()
	last := all[len(all)-1]
	if !sooner(c, last) {
		return false
	}
	delete(m.ranks, last.Key)
	m.ranks[c.Key] = c.Rank
	return true
}

func (m *spelled) drop(key string) bool {
	_, kept := m.ranks[key]
	delete(m.ranks, key)
	return kept
}

func (m *spelled) take() (api.Candidate, bool) {
	if len(m.ranks) == 0 {
		return api.Candidate{}, false
	}
	c := m.candidates()[0]
	delete(m.ranks, c.Key)
	return c, true
}

func (m *spelled) candidates() []api.Candidate {
	var l []api.Candidate
	for key, rank := range m.ranks {
		l = append(l, api.Candidate{Key: key, Rank: rank})
	}
	return inTheirOrder(l)
}

// inTheirOrder tells candidates of unlike keys, the soonest first: each one's place is how many come sooner.
func inTheirOrder(l []api.Candidate) []api.Candidate {
	row := make([]api.Candidate, len(l))
	for _, c := range l {
		at := 0
		for _, other := range l {
			if sooner(other, c) {
				at++
			}
		}
		row[at] = c
	}
	return row
}

// both is a pool and the chapter's words beside it, to which the same is done.
type both struct {
	t *testing.T
	p *Pool
	m *spelled
}

func newBoth(t *testing.T, most int) both {
	t.Helper()
	return both{t, newPool(t, most), &spelled{most, map[string]uint64{}}}
}

func newPool(t *testing.T, most int) *Pool {
	t.Helper()
	p, code := New(most)
	if p == nil || code != api.OK {
		t.Fatalf("New(%d): %v %d", most, p, code)
	}
	return p
}

func (b both) offer(key string, rank uint64) {
	b.t.Helper()
	c := api.Candidate{Key: key, Rank: rank}
	if got, want := b.p.Offer(c), b.m.offer(c); got != want {
		b.t.Fatalf("Offer %s: %v, not %v", short(c), got, want)
	}
}

func (b both) drop(key string) {
	b.t.Helper()
	if got, want := b.p.Drop(key), b.m.drop(key); got != want {
		b.t.Fatalf("Drop(%.40q): %v, not %v", key, got, want)
	}
}

func (b both) take() {
	b.t.Helper()
	got, ok := b.p.Take()
	if want, is := b.m.take(); got != want || ok != is {
		b.t.Fatalf("Take: %s %v, not %s %v", short(got), ok, short(want), is)
	}
}

func (b both) clear() {
	b.p.Clear()
	clear(b.m.ranks)
}

// hold compares all that can be seen of a pool.
func (b both) hold() {
	b.t.Helper()
	want(b.t, "Candidates", b.p.Candidates(), b.m.candidates()...)
	holdForm(b.t, b.p, b.m.most)
}

// holdForm looks at a pool by itself: never too many, rising, each key once.
func holdForm(t *testing.T, p *Pool, most int) {
	t.Helper()
	l := p.Candidates()
	if len(l) > most {
		t.Fatalf("%d of %d: %s", len(l), most, short(l...))
	}
	for i, c := range l {
		for _, behind := range l[i+1:] {
			if !sooner(c, behind) || c.Key == behind.Key {
				t.Fatalf("%s ahead of %s: %s", short(c), short(behind), short(l...))
			}
		}
	}
}

func want(t *testing.T, name string, got []api.Candidate, want ...api.Candidate) {
	t.Helper()
	if !slices.Equal(got, want) {
		t.Fatalf("%s: %s, not %s", name, short(got...), short(want...))
	}
}

// short tells candidates so that they can be read, also if their keys are long.
func short(l ...api.Candidate) string {
	s := "["
	for _, c := range l {
		s += " " + strconv.Quote(c.Key[:min(len(c.Key), 20)]) + " " + strconv.FormatUint(c.Rank, 10)
	}
	return s + " ]"
}
