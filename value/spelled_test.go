package value

import (
	"maps"
	"math"
	"math/rand/v2"
	"slices"
	"strconv"
	"strings"
	"testing"

	"pantry/api"
)

// spelled is the chapter, word by word, of a value that holds no objects: a row of texts, or plain tables.
type spelled struct {
	kind   int
	text   string
	items  []string
	fields map[string]string
	flock  map[string]int
	scores map[string]float64
}

func newSpelled(kind int) *spelled {
	return &spelled{kind: kind, fields: map[string]string{}, flock: map[string]int{}, scores: map[string]float64{}}
}

// spelledOf is P12.5: it goes through the errors in the chapter's order, and holds each thing against each other one.
func spelledOf(p api.Plain) (*spelled, api.Errno) {
	if p.Kind < 1 || p.Kind > 5 {
		return nil, api.ErrArg
	}
	if p.Text != "" && p.Kind != api.KdText {
		return nil, api.ErrArg
	}
	if len(p.Items) != 0 && p.Kind != api.KdList && p.Kind != api.KdFlock {
		return nil, api.ErrArg
	}
	if len(p.Pairs) != 0 && p.Kind != api.KdRecord {
		return nil, api.ErrArg
	}
	if len(p.Ranks) != 0 && p.Kind != api.KdRanks {
		return nil, api.ErrArg
	}
	if anyTwoAlike(namesOf(p)) {
		return nil, api.ErrArg
	}
	for _, e := range p.Ranks {
		if e.Score != e.Score {
			return nil, api.ErrArg
		}
	}
	for _, s := range textsOf(p) {
		if len(s) > 1048576 {
			return nil, api.ErrLong
		}
	}
	if len(p.Items) > 1048576 || len(p.Pairs) > 1048576 || len(p.Ranks) > 1048576 {
		return nil, api.ErrFull
	}
	m := newSpelled(p.Kind)
	m.text = p.Text
	for _, item := range p.Items {
		if p.Kind == api.KdList {
			m.items = append(m.items, item)
		} else {
			m.flock[item] = 1
		}
	}
	for _, e := range p.Pairs {
		m.fields[e.Field] = e.Value
	}
	for _, e := range p.Ranks {
		m.scores[e.Member] = e.Score
	}
	return m, api.OK
}

func anyTwoAlike(l []string) bool {
	for i := range l {
		for j := range i {
			if l[i] == l[j] {
				return true
			}
		}
	}
	return false
}

// namesOf tells what a value has once alone: of texts and lists nothing.
func namesOf(p api.Plain) []string {
	var l []string
	if p.Kind == api.KdFlock {
		l = append(l, p.Items...)
	}
	for _, e := range p.Pairs {
		l = append(l, e.Field)
	}
	for _, e := range p.Ranks {
		l = append(l, e.Member)
	}
	return l
}

func textsOf(p api.Plain) []string {
	l := append([]string{p.Text}, p.Items...)
	for _, e := range p.Pairs {
		l = append(l, e.Field, e.Value)
	}
	for _, e := range p.Ranks {
		l = append(l, e.Member)
	}
	return l
}

func (m *spelled) empty() bool {
	return m.kind != api.KdText && len(m.items)+len(m.fields)+len(m.flock)+len(m.scores) == 0
}

func (m *spelled) cost() int64 {
	sum := len(m.text)
	for _, s := range m.items {
		sum += 16 + len(s)
	}
	for field, s := range m.fields {
		sum += 32 + len(field) + len(s)
	}
	for member := range m.flock {
		sum += 24 + len(member)
	}
	for member := range m.scores {
		sum += 40 + len(member)
	}
	return int64(sum)
}

func (m *spelled) plain() api.Plain {
	p := api.Plain{Kind: m.kind, Text: m.text, Items: slices.Clone(m.items)}
	for member := range m.flock {
		p.Items = append(p.Items, member)
	}
	for field, s := range m.fields {
		p.Pairs = append(p.Pairs, api.Pair{Field: field, Value: s})
	}
	for member, x := range m.scores {
		p.Ranks = append(p.Ranks, api.Ranked{Member: member, Score: x})
	}
	if m.kind == api.KdFlock {
		slices.Sort(p.Items)
	}
	slices.SortFunc(p.Pairs, func(a, b api.Pair) int { return strings.Compare(a.Field, b.Field) })
	slices.SortFunc(p.Ranks, func(a, b api.Ranked) int {
		switch {
		case a.Score < b.Score:
			return -1
		case a.Score > b.Score:
			return 1
		}
		return strings.Compare(a.Member, b.Member)
	})
	return p
}

func (m *spelled) copy() *spelled {
	other := *m
	other.items = slices.Clone(m.items)
	other.fields, other.flock, other.scores = maps.Clone(m.fields), maps.Clone(m.flock), maps.Clone(m.scores)
	return &other
}

// samePlain holds scores against each other bit by bit: the two noughts are two answers.
func samePlain(a, b api.Plain) bool {
	return a.Kind == b.Kind && a.Text == b.Text && slices.Equal(a.Items, b.Items) && slices.Equal(a.Pairs, b.Pairs) &&
		slices.EqualFunc(a.Ranks, b.Ranks, func(x, y api.Ranked) bool {
			return x.Member == y.Member && math.Float64bits(x.Score) == math.Float64bits(y.Score)
		})
}

// short tells plain data in a line that can be read.
func short(p api.Plain) string {
	var b strings.Builder
	b.WriteString("{" + strconv.Itoa(p.Kind) + " " + clip(p.Text))
	for part, l := range [][]string{p.Items, words(p.Pairs, func(e api.Pair) string { return e.Field + "=" + e.Value }),
		words(p.Ranks, func(e api.Ranked) string { return e.Member + "@" + strconv.FormatFloat(e.Score, 'g', -1, 64) })} {
		b.WriteString([]string{"; items", "; pairs", "; ranks"}[part])
		for _, s := range l[:min(len(l), 10)] {
			b.WriteString(" " + clip(s))
		}
		if len(l) > 10 {
			b.WriteString(" .. (" + strconv.Itoa(len(l)) + ")")
		}
	}
	return b.String() + "}"
}

func words[E any](l []E, word func(E) string) []string {
	var out []string
	for _, e := range l {
		out = append(out, word(e))
	}
	return out
}

func clip(s string) string {
	if len(s) > 20 {
		return strconv.Quote(s[:20]) + ".. (" + strconv.Itoa(len(s)) + " bytes)"
	}
	return strconv.Quote(s)
}

// hold compares all that can be seen of a value.
func hold(t *testing.T, v *Value, m *spelled) {
	t.Helper()
	if v.Kind() != m.kind {
		t.Fatalf("Kind: %d, not %d", v.Kind(), m.kind)
	}
	if v.Empty() != m.empty() {
		t.Fatalf("Empty: %v of %s", v.Empty(), short(m.plain()))
	}
	if v.Cost() != m.cost() {
		t.Fatalf("Cost: %d, not %d, of %s", v.Cost(), m.cost(), short(m.plain()))
	}
	if p := v.Plain(); !samePlain(p, m.plain()) {
		t.Fatalf("Plain: %s, not %s", short(p), short(m.plain()))
	}
	holdAs(t, v, m)
}

// holdAs asks each As: one of them has something to tell.
func holdAs(t *testing.T, v *Value, m *spelled) {
	t.Helper()
	if s, ok := v.AsText(); ok != (m.kind == api.KdText) || s != m.text {
		t.Fatalf("AsText: %s %v of the kind %d", clip(s), ok, m.kind)
	}
	if d, ok := v.AsList(); ok != (m.kind == api.KdList) || (d != nil) != ok || d.Len() != len(m.items) {
		t.Fatalf("AsList: %v %v of the kind %d", d != nil, ok, m.kind)
	}
	if r, ok := v.AsRecord(); ok != (m.kind == api.KdRecord) || (r != nil) != ok || r.Len() != len(m.fields) {
		t.Fatalf("AsRecord: %v %v of the kind %d", r != nil, ok, m.kind)
	}
	if f, ok := v.AsFlock(); ok != (m.kind == api.KdFlock) || (f != nil) != ok || f.Len() != len(m.flock) {
		t.Fatalf("AsFlock: %v %v of the kind %d", f != nil, ok, m.kind)
	}
	if r, ok := v.AsRanks(); ok != (m.kind == api.KdRanks) || (r != nil) != ok || r.Len() != len(m.scores) {
		t.Fatalf("AsRanks: %v %v of the kind %d", r != nil, ok, m.kind)
	}
}

// both is a value and what the chapter says of it.
type both struct {
	t *testing.T
	v *Value
	m *spelled
}

// of makes both of plain data, which must not be refused.
func of(t *testing.T, p api.Plain, seed uint64) both {
	t.Helper()
	v, code := Of(p, seed)
	m, want := spelledOf(p)
	if code != api.OK || want != api.OK {
		t.Fatalf("Of(%s): %d, not %d", short(p), code, want)
	}
	hold(t, v, m)
	return both{t, v, m}
}

func (b both) copy() both {
	b.t.Helper()
	v := b.v.Copy()
	hold(b.t, v, b.m)
	return both{b.t, v, b.m.copy()}
}

// holdOf compares what is answered of any plain data, and of the value that is made of it.
func holdOf(t *testing.T, p api.Plain, seed uint64) {
	t.Helper()
	m, want := spelledOf(p)
	v, code := Of(p, seed)
	if code != want || (v == nil) != (want != api.OK) {
		t.Fatalf("Of(%s): %v %d, not %d", short(p), v != nil, code, want)
	}
	if want != api.OK {
		if Cost(p) != 0 {
			t.Fatalf("Cost(%s): %d, and Of refuses it", short(p), Cost(p))
		}
		return
	}
	hold(t, v, m)
	if Cost(p) != m.cost() {
		t.Fatalf("Cost(%s): %d, not %d", short(p), Cost(p), m.cost())
	}
}

// put brings something under a name, whatever the kind of the object; a list's texts come ahead of all, or behind.
func (b both) put(name string, n int) {
	b.t.Helper()
	if d, ok := b.v.AsList(); ok {
		d.Push(n%2 == 0, name)
		if n%2 == 0 {
			b.m.items = slices.Insert(b.m.items, 0, name)
		} else {
			b.m.items = append(b.m.items, name)
		}
	}
	if r, ok := b.v.AsRecord(); ok {
		r.Set(name, strconv.Itoa(n))
		b.m.fields[name] = strconv.Itoa(n)
	}
	if f, ok := b.v.AsFlock(); ok {
		f.Add(name)
		b.m.flock[name] = 1
	}
	if r, ok := b.v.AsRanks(); ok {
		r.Set(name, float64(n%7)-3)
		b.m.scores[name] = float64(n%7) - 3
	}
	hold(b.t, b.v, b.m)
}

// take takes what stands under a name away; of a list the text at one of its ends.
func (b both) take(name string, n int) {
	b.t.Helper()
	if d, ok := b.v.AsList(); ok {
		d.Pop(n%2 == 0)
		if k := len(b.m.items); k > 0 && n%2 == 0 {
			b.m.items = slices.Delete(b.m.items, 0, 1)
		} else if k > 0 {
			b.m.items = b.m.items[:k-1]
		}
	}
	if r, ok := b.v.AsRecord(); ok {
		r.Delete(name)
		delete(b.m.fields, name)
	}
	if f, ok := b.v.AsFlock(); ok {
		f.Delete(name)
		delete(b.m.flock, name)
	}
	if r, ok := b.v.AsRanks(); ok {
		r.Delete(name)
		delete(b.m.scores, name)
	}
	hold(b.t, b.v, b.m)
}

// some tells plain data of a kind, with so many items; name tells their names.
func some(kind, n int, name func(i int) string) api.Plain {
	p := api.Plain{Kind: kind}
	for i := range n {
		switch kind {
		case api.KdText:
			p.Text += name(i)
		case api.KdList, api.KdFlock:
			p.Items = append(p.Items, name(i))
		case api.KdRecord:
			p.Pairs = append(p.Pairs, api.Pair{Field: name(i), Value: "of " + name(i)})
		case api.KdRanks:
			p.Ranks = append(p.Ranks, api.Ranked{Member: name(i), Score: float64(i%5) - 2})
		}
	}
	return p
}

// name tells names that do not rise as their numbers do.
func name(i int) string { return "m" + strconv.Itoa(i*7919%10007) }

// TestP12_AsSpelled does things at random to values of all kinds and to copies of them, each of which goes its own way.
func TestP12_AsSpelled(t *testing.T) {
	for seed := range uint64(60) {
		r := rand.New(rand.NewPCG(seed, 12))
		kind := 1 + int(seed)%5
		all := []both{of(t, some(kind, r.IntN(50), name), seed)}
		for range 120 {
			b := all[r.IntN(len(all))]
			switch n := r.IntN(1000); {
			case n < 550:
				b.put(name(r.IntN(40)), n)
			case n < 900:
				b.take(name(r.IntN(40)), n)
			case n < 950:
				all = append(all, b.copy())
			default:
				all = append(all, of(t, b.v.Plain(), r.Uint64()))
			}
		}
		for _, b := range all {
			hold(t, b.v, b.m)
		}
	}
}

// TestP12_5_AsSpelled asks Of, and Cost, of plain data at random, much of which is refused.
func TestP12_5_AsSpelled(t *testing.T) {
	told := map[api.Errno]int{}
	for seed := range uint64(40) {
		r := rand.New(rand.NewPCG(seed, 125))
		for range 500 {
			p := atRandom(r)
			_, code := spelledOf(p)
			told[code]++
			holdOf(t, p, r.Uint64())
		}
	}
	if told[api.OK] < 1000 || told[api.ErrArg] < 1000 || told[api.ErrLong] < 1000 {
		t.Errorf("not enough of each: %v", told)
	}
}

func atRandom(r *rand.Rand) api.Plain {
	kind := 1 + r.IntN(5)
	p := some(kind, r.IntN(8), func(int) string { return oddTexts[r.IntN(len(oddTexts))] })
	if r.IntN(3) > 0 { // else the names are mostly not all different
		p = some(kind, r.IntN(8), func(i int) string { return oddTexts[i] })
	}
	for i := range p.Ranks {
		p.Ranks[i].Score = scores[r.IntN(len(scores))]
	}
	switch r.IntN(12) {
	case 0:
		p.Kind = r.IntN(9) - 1
	case 1:
		p.Text += "stray"
	case 2:
		p.Items = append(p.Items, "stray")
	case 3:
		p.Pairs = append(p.Pairs, api.Pair{Value: "stray"})
	case 4:
		p.Ranks = append(p.Ranks, api.Ranked{Score: math.NaN()})
	case 5, 6, 7:
		return stretch(p, r)
	}
	return p
}

// stretch makes one text of plain data too long.
func stretch(p api.Plain, r *rand.Rand) api.Plain {
	switch at := r.IntN(8); {
	case p.Kind == api.KdText:
		p.Text = long + "x"
	case at < len(p.Items):
		p.Items[at] = long + "x"
	case at < len(p.Pairs) && r.IntN(2) == 0:
		p.Pairs[at].Field = long + "x"
	case at < len(p.Pairs):
		p.Pairs[at].Value = long + "x"
	case at < len(p.Ranks):
		p.Ranks[at].Member = long + "x"
	}
	return p
}

// TestP12_5_EachWithEach asks Of of everything that can be put together of a few parts, right ones and wrong ones.
func TestP12_5_EachWithEach(t *testing.T) {
	tooLong := long + "x"
	nan := math.NaN()
	texts := []string{"", "x", tooLong}
	items := [][]string{nil, {}, {""}, {"a", "b"}, {"a", "a"}, {tooLong}, {tooLong, tooLong}}
	pairs := [][]api.Pair{nil, {}, {{}}, {{Field: "a"}, {Field: "b"}}, {{Field: "a"}, {Field: "a", Value: "b"}}, {{Field: tooLong}},
		{{Value: tooLong}}, {{Field: "a", Value: tooLong}, {Field: "a"}}}
	ranks := [][]api.Ranked{nil, {}, {{}}, {{Member: "b"}, {Member: "a", Score: 1}}, {{Member: "a"}, {Member: "a", Score: 1}},
		{{Member: tooLong}}, {{Score: nan}}, {{Member: tooLong, Score: nan}}, {{Member: "a"}, {Member: "a"}, {Member: tooLong}}}
	for kind := -1; kind <= 6; kind++ {
		for _, text := range texts {
			for _, items := range items {
				for _, pairs := range pairs {
					for _, ranks := range ranks {
						holdOf(t, api.Plain{Kind: kind, Text: text, Items: items, Pairs: pairs, Ranks: ranks}, 5)
					}
				}
			}
		}
	}
}
