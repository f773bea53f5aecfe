package value

import (
	"math"
	"math/rand/v2"
	"slices"
	"strconv"
	"strings"
	"sync"
	"testing"

	"pantry/api"
	"pantry/deque"
	"pantry/flock"
	"pantry/rank"
	"pantry/record"
)

var (
	inf    = math.Inf(1)
	nought = math.Copysign(0, -1)
	long   = strings.Repeat("l", 1048576)
)

// oddTexts are texts of every sort, not in their order, all different.
var oddTexts = []string{"b", "", "a", "\xff", "ab", "\x00", "B", "a\x00", "é", "10", "9", "\x00\x00", "aa", "\xff\xff", "a\r\nb", "\x7f", "\x80", " ", strings.Repeat("a", 300)}

// scores are floats of every sort that a score may be, not in their order.
var scores = []float64{1, -inf, nought, 0, inf, 0.1, -1.5, math.MaxFloat64, math.SmallestNonzeroFloat64, 1e17}

// seeds are some that objects may be made with.
var seeds = []uint64{0, 1, 77, 1 << 32, math.MaxUint64}

// kinds are the five; objects are those that hold one.
var (
	kinds   = []int{api.KdText, api.KdList, api.KdRecord, api.KdFlock, api.KdRanks}
	objects = kinds[1:]
)

func item(i int) string { return strconv.Itoa(10000000 + i*7919%2097143) }

// many tells plain data of so many items; the names are made once, since there are a million of them.
func many(kind, n int) api.Plain {
	return some(kind, n, func(i int) string { return manyNames()[i] })
}

var manyNames = sync.OnceValue(func() []string {
	l := make([]string, api.MaxItems+2)
	for i := range l {
		l[i] = item(i)
	}
	return l
})

// ofNone makes a value of no object.
func ofNone(kind int) *Value {
	switch kind {
	case api.KdList:
		return List(nil)
	case api.KdRecord:
		return Record(nil)
	case api.KdFlock:
		return Flock(nil)
	case api.KdRanks:
		return Ranks(nil)
	}
	return Text("")
}

// lie tells how the fields or members of a value lie: what a scan tells, cursor by cursor; of a list its chunks.
func lie(v *Value) [][]string {
	scan := func(uint64, int) (uint64, []string) { return 0, nil }
	if r, ok := v.AsRecord(); ok {
		scan = r.Scan
	}
	if f, ok := v.AsFlock(); ok {
		scan = f.Scan
	}
	var told [][]string
	if d, ok := v.AsList(); ok {
		for _, n := range d.Chunks() {
			told = append(told, []string{strconv.Itoa(n)})
		}
	}
	for cursor, first := uint64(0), true; first || cursor != 0; first = false {
		next, names := scan(cursor, 1)
		told = append(told, append([]string{strconv.FormatUint(cursor, 10)}, names...))
		cursor = next
	}
	return told
}

func sameLie(a, b *Value) bool { return slices.EqualFunc(lie(a), lie(b), slices.Equal) }

func wantPlain(t *testing.T, v *Value, want api.Plain) {
	t.Helper()
	if p := v.Plain(); !samePlain(p, want) {
		t.Errorf("Plain: %s, not %s", short(p), short(want))
	}
}

func wantOf(t *testing.T, p api.Plain, want api.Errno) {
	t.Helper()
	if v, code := Of(p, 3); code != want || (v == nil) != (want != api.OK) {
		t.Errorf("Of(%s): %v %d, not %d", short(p), v != nil, code, want)
	}
}

func TestP12_1_Text(t *testing.T) {
	for _, s := range append(slices.Clone(oddTexts), long, long+"x") {
		v, m := Text(s), newSpelled(api.KdText)
		m.text = s
		hold(t, v, m)
		hold(t, v.Copy(), m)
	}
}

func TestP12_1_ChapterExamples(t *testing.T) {
	v := Text("abc")
	if v.Kind() != 1 || v.Cost() != 3 || v.Empty() {
		t.Errorf("Text(abc): %d %d %v", v.Kind(), v.Cost(), v.Empty())
	}
	if s, ok := v.AsText(); s != "abc" || !ok {
		t.Errorf("AsText: %q %v", s, ok)
	}
	if d, ok := v.AsList(); d != nil || ok {
		t.Errorf("AsList: %v %v", d, ok)
	}
	if v := Text(""); v.Cost() != 0 || v.Empty() {
		t.Errorf("Text of nothing: %d %v", v.Cost(), v.Empty())
	}
	v = List(nil)
	if v.Kind() != 2 || !v.Empty() || v.Cost() != 0 {
		t.Errorf("List(nil): %d %v %d", v.Kind(), v.Empty(), v.Cost())
	}
	d, _ := v.AsList()
	if code := d.Push(false, "xy"); code != api.OK || v.Empty() || v.Cost() != 18 {
		t.Errorf("behind a push: %d %v %d", code, v.Empty(), v.Cost())
	}
	wantPlain(t, v, api.Plain{Kind: api.KdList, Items: []string{"xy"}})
}

// What is done to an object that was handed in is done to what the value holds, and the object is told as it is.
func TestP12_1_TheObjectItself(t *testing.T) {
	d, r, f, z := deque.New(), record.New(7), flock.New(7), rank.New(7)
	lists, records, flocks, ranks := List(d), Record(r), Flock(f), Ranks(z)
	for range 2 {
		if got, ok := lists.AsList(); got != d || !ok {
			t.Error("AsList: another deque")
		}
		if got, ok := records.AsRecord(); got != r || !ok {
			t.Error("AsRecord: another record")
		}
		if got, ok := flocks.AsFlock(); got != f || !ok {
			t.Error("AsFlock: another flock")
		}
		if got, ok := ranks.AsRanks(); got != z || !ok {
			t.Error("AsRanks: other ranks")
		}
		d.Push(false, "b")
		r.Set("f"+strconv.Itoa(r.Len()), "v")
		f.Add("m" + strconv.Itoa(f.Len()))
		z.Set("z"+strconv.Itoa(z.Len()), nought)
	}
	for i, v := range []*Value{lists, records, flocks, ranks} {
		if v.Empty() || v.Kind() != objects[i] || v.Cost() != []int64{34, 70, 52, 84}[i] {
			t.Errorf("the kind %d: Empty %v, Cost %d", v.Kind(), v.Empty(), v.Cost())
		}
	}
	wantPlain(t, lists, api.Plain{Kind: 2, Items: []string{"b", "b"}})
	wantPlain(t, records, api.Plain{Kind: 3, Pairs: []api.Pair{{Field: "f0", Value: "v"}, {Field: "f1", Value: "v"}}})
	wantPlain(t, flocks, api.Plain{Kind: 4, Items: []string{"m0", "m1"}})
	wantPlain(t, ranks, api.Plain{Kind: 5, Ranks: []api.Ranked{{Member: "z0", Score: nought}, {Member: "z1", Score: nought}}})
}

// An object in which something stands already is taken as it is, and two values of one object both show it.
func TestP12_1_ObjectsThatAreFull(t *testing.T) {
	for _, kind := range objects {
		for _, n := range []int{1, 32, 100} {
			b := of(t, some(kind, n, name), 9)
			twin := ofSameObject(b.v)
			hold(t, twin, b.m)
			if !sameLie(twin, b.v) {
				t.Errorf("the kind %d: another object", kind)
			}
			b.put("more", 1)
			hold(t, twin, b.m)
			both{t, twin, b.m}.take("more", 1)
			hold(t, b.v, b.m)
		}
	}
}

func ofSameObject(v *Value) *Value {
	if d, ok := v.AsList(); ok {
		return List(d)
	}
	if r, ok := v.AsRecord(); ok {
		return Record(r)
	}
	if f, ok := v.AsFlock(); ok {
		return Flock(f)
	}
	r, _ := v.AsRanks()
	return Ranks(r)
}

// Of no object a new one is held: it is told, and what is done to it is seen; and no other value shows it.
func TestP12_1_NoObject(t *testing.T) {
	for _, kind := range objects {
		b, other := both{t, ofNone(kind), newSpelled(kind)}, both{t, ofNone(kind), newSpelled(kind)}
		hold(t, b.v, b.m)
		for i := range 50 {
			b.put(name(i), i)
			hold(t, other.v, other.m)
		}
		other.put("x", 1)
		for i := range 50 {
			b.take(name(i), i)
		}
		hold(t, other.v, other.m)
	}
}

// The new object is that of the seed 0: it lies so.
func TestP12_1_NoObjectHasTheSeedNought(t *testing.T) {
	r, f := record.New(0), flock.New(0)
	records, _ := Record(nil).AsRecord()
	flocks, _ := Flock(nil).AsFlock()
	for i := range 60 {
		for _, r := range []*record.Record{r, records} {
			r.Set(name(i), "v")
		}
		for _, f := range []*flock.Flock{f, flocks} {
			f.Add(name(i))
		}
		if !sameLie(Record(r), Record(records)) {
			t.Fatalf("a record of %d fields lies otherwise than one of the seed 0", i+1)
		}
		if !sameLie(Flock(f), Flock(flocks)) {
			t.Fatalf("a flock of %d members lies otherwise than one of the seed 0", i+1)
		}
	}
}

func TestP12_2_KindAndAs(t *testing.T) {
	for _, kind := range kinds {
		for _, n := range []int{0, 1, 40} {
			b := of(t, some(kind, n, name), 2)
			if b.v.Kind() != kind {
				t.Errorf("Kind: %d, not %d", b.v.Kind(), kind)
			}
			holdAs(t, b.v, b.m)
		}
		holdAs(t, ofNone(kind), newSpelled(kind))
	}
}

func TestP12_2_NoValue(t *testing.T) {
	// A value that no call has made is none either.
	for _, v := range []*Value{nil, new(Value)} {
		if v.Kind() != api.KdNone || v.Empty() || v.Cost() != 0 {
			t.Errorf("no value: Kind %d, Empty %v, Cost %d", v.Kind(), v.Empty(), v.Cost())
		}
		holdAs(t, v, newSpelled(api.KdNone))
		wantPlain(t, v, api.Plain{})
		if c := v.Copy(); c.Kind() != api.KdNone {
			t.Error("Copy of no value is one")
		}
	}
	var none *Value
	if none.Copy() != nil {
		t.Error("Copy of no value is not nil")
	}
}

func TestP12_3_Empty(t *testing.T) {
	if Text("").Empty() || Text("a").Empty() {
		t.Error("a text is empty")
	}
	for _, kind := range objects {
		b := both{t, ofNone(kind), newSpelled(kind)}
		if !b.v.Empty() {
			t.Errorf("the kind %d: an object with nothing in it is not empty", kind)
		}
		b.put("", 1)
		if b.v.Empty() {
			t.Errorf("the kind %d: with the empty text in it it is empty", kind)
		}
		b.put("x", 1)
		b.take("x", 1)
		if b.v.Empty() {
			t.Errorf("the kind %d: empty with one left", kind)
		}
		b.take("", 1)
		if !b.v.Empty() {
			t.Errorf("the kind %d: not empty, and all are gone", kind)
		}
		if !b.v.Copy().Empty() {
			t.Errorf("the kind %d: the copy of an empty one is not empty", kind)
		}
	}
}

// The objects' own Costs are told, at all times, whatever is done to them.
func TestP12_3_Cost(t *testing.T) {
	for i, kind := range objects {
		b := both{t, ofNone(kind), newSpelled(kind)}
		b.put("abc", 1)
		if want := []int64{19, 36, 27, 43}[i]; b.v.Cost() != want {
			t.Errorf("Cost of the kind %d with abc: %d, not %d", kind, b.v.Cost(), want)
		}
		for n := range 80 {
			b.put(name(n%30), n)
			b.take(name(n%7), n)
		}
	}
	for n := range 3 {
		if s := strings.Repeat("é", n); Text(s).Cost() != int64(2*n) {
			t.Errorf("Cost of a text: %d", Text(s).Cost())
		}
	}
}

func TestP12_3_CostOfOtherTexts(t *testing.T) {
	v := ofNone(api.KdRecord)
	r, _ := v.AsRecord()
	for _, s := range []string{"", "longer", "x"} {
		r.Set("f", s)
		if want := int64(33 + len(s)); v.Cost() != want {
			t.Errorf("Cost: %d, not %d", v.Cost(), want)
		}
	}
	l := ofNone(api.KdList)
	d, _ := l.AsList()
	d.Push(true, "a")
	d.Set(0, "abcd")
	if l.Cost() != 20 {
		t.Errorf("Cost: %d", l.Cost())
	}
}

// A copy holds what the object's own Copy is: it lies as that does.
func TestP12_3_CopyIsTheObjectsCopy(t *testing.T) {
	for _, kind := range objects {
		for _, seed := range seeds {
			for _, n := range []int{0, 1, 5, 33, 100} {
				b := of(t, some(kind, n, name), seed)
				for i := range n / 3 {
					b.take(name(i*2), i)
				}
				c := b.v.Copy()
				hold(t, c, b.m)
				if want := ofObjectsCopy(b.v); !sameLie(c, want) {
					t.Errorf("the kind %d, %d items: the copy lies otherwise: %q, not %q", kind, n, lie(c), lie(want))
				}
			}
		}
	}
}

func ofObjectsCopy(v *Value) *Value {
	if d, ok := v.AsList(); ok {
		return List(d.Copy())
	}
	if r, ok := v.AsRecord(); ok {
		return Record(r.Copy())
	}
	if f, ok := v.AsFlock(); ok {
		return Flock(f.Copy())
	}
	r, _ := v.AsRanks()
	return Ranks(r.Copy())
}

func TestP12_4_Plain(t *testing.T) {
	wantPlain(t, Text("a\x00b"), api.Plain{Kind: 1, Text: "a\x00b"})
	wantPlain(t, Text(""), api.Plain{Kind: 1})
	for i, kind := range objects {
		wantPlain(t, ofNone(kind), api.Plain{Kind: i + 2})
	}
	d := deque.New()
	for _, s := range []string{"b", "a", "", "b"} {
		d.Push(false, s)
	}
	wantPlain(t, List(d), api.Plain{Kind: 2, Items: []string{"b", "a", "", "b"}})
	r := record.New(1)
	r.Set("b", "2")
	r.Set("\xff", "")
	r.Set("a", "1")
	r.Set("b", "3")
	wantPlain(t, Record(r), api.Plain{Kind: 3, Pairs: []api.Pair{{Field: "a", Value: "1"}, {Field: "b", Value: "3"}, {Field: "\xff"}}})
	f := flock.New(1)
	for _, s := range []string{"b", "\xff", "", "a"} {
		f.Add(s)
	}
	wantPlain(t, Flock(f), api.Plain{Kind: 4, Items: []string{"", "a", "b", "\xff"}})
	z := rank.New(1)
	for _, e := range []api.Ranked{{Member: "d", Score: inf}, {Member: "c", Score: 0}, {Member: "b", Score: nought}, {Member: "a", Score: 1}, {Member: "e", Score: -inf}} {
		z.Set(e.Member, e.Score)
	}
	wantPlain(t, Ranks(z), api.Plain{Kind: 5, Ranks: []api.Ranked{{Member: "e", Score: -inf}, {Member: "b", Score: nought}, {Member: "c"}, {Member: "a", Score: 1}, {Member: "d", Score: inf}}})
}

// What was told is the caller's: neither the value nor another answer shows what is written there.
func TestP12_4_MemoryOfItsOwn(t *testing.T) {
	for _, kind := range kinds {
		for _, n := range []int{1, 3, 32, 70} {
			b := of(t, some(kind, n, name), 4)
			first, second := b.v.Plain(), b.v.Plain()
			spoil(first)
			hold(t, b.v, b.m)
			if !samePlain(second, b.m.plain()) {
				t.Errorf("the kind %d: two answers share memory", kind)
			}
			third := b.v.Plain()
			b.put("new", 1)
			b.take(name(0), 0)
			if !samePlain(third, second) {
				t.Errorf("the kind %d: what was told shows a later change", kind)
			}
		}
	}
}

// spoil writes into the lists of plain data, and into the room behind their ends.
func spoil(p api.Plain) {
	for i := range p.Items[:cap(p.Items)] {
		p.Items[:cap(p.Items)][i] = "spoilt"
	}
	for i := range p.Pairs[:cap(p.Pairs)] {
		p.Pairs[:cap(p.Pairs)][i] = api.Pair{Field: "spoilt", Value: "spoilt"}
	}
	for i := range p.Ranks[:cap(p.Ranks)] {
		p.Ranks[:cap(p.Ranks)][i] = api.Ranked{Member: "spoilt", Score: -77}
	}
}

func TestP12_5_ChapterExamples(t *testing.T) {
	v, code := Of(api.Plain{Kind: api.KdFlock, Items: []string{"b", "a"}}, 0)
	if code != api.OK || v.Cost() != 50 {
		t.Errorf("a flock of b and a: %d, Cost %d", code, v.Cost())
	}
	wantPlain(t, v, api.Plain{Kind: api.KdFlock, Items: []string{"a", "b"}})
	wantOf(t, api.Plain{Kind: api.KdFlock, Items: []string{"a", "a"}}, api.ErrArg)
	wantOf(t, api.Plain{Kind: api.KdText, Text: "x", Items: []string{"a"}}, api.ErrArg)
	wantOf(t, api.Plain{Kind: api.KdNone}, api.ErrArg)
	wantOf(t, api.Plain{Kind: 6}, api.ErrArg)
	wantOf(t, api.Plain{Kind: api.KdRanks, Ranks: []api.Ranked{{Member: "a", Score: math.NaN()}}}, api.ErrArg)
	tooLong := api.Plain{Kind: api.KdList, Items: []string{strings.Repeat("x", 1048577)}}
	wantOf(t, tooLong, api.ErrLong)
	if Cost(tooLong) != 0 {
		t.Errorf("Cost of what is too long: %d", Cost(tooLong))
	}
	v, code = Of(api.Plain{Kind: api.KdList}, 0)
	if d, ok := v.AsList(); code != api.OK || !ok || d.Len() != 0 {
		t.Errorf("a list without texts: %d %v", code, ok)
	}
}

func TestP12_5_Kinds(t *testing.T) {
	for _, kind := range kinds {
		for _, n := range []int{0, 1, 2, 33, 200} {
			of(t, some(kind, n, name), 1)
		}
	}
	for _, kind := range []int{math.MinInt, -6, -5, -1, 0, 6, 7, 256 + 1, 1<<32 + 1, math.MaxInt} {
		wantOf(t, api.Plain{Kind: kind}, api.ErrArg)
		for _, of := range kinds {
			p := some(of, 2, name)
			p.Kind = kind
			wantOf(t, p, api.ErrArg)
		}
	}
}

// Each part is of use to some kinds alone. A part with nothing in it, nil or not, stands in nobody's way.
func TestP12_5_PartsOfNoUse(t *testing.T) {
	parts := []struct {
		of  []int
		put func(p *api.Plain)
	}{
		{[]int{api.KdText}, func(p *api.Plain) { p.Text = "x" }},
		{[]int{api.KdList, api.KdFlock}, func(p *api.Plain) { p.Items = []string{""} }},
		{[]int{api.KdRecord}, func(p *api.Plain) { p.Pairs = []api.Pair{{}} }},
		{[]int{api.KdRanks}, func(p *api.Plain) { p.Ranks = []api.Ranked{{}} }},
	}
	for _, kind := range kinds {
		for i, part := range parts {
			want := api.ErrArg
			if slices.Contains(part.of, kind) {
				want = api.OK
			}
			bare := api.Plain{Kind: kind}
			part.put(&bare)
			wantOf(t, bare, want)
			full := some(kind, 3, name)
			part.put(&full)
			if wantOf(t, full, want); t.Failed() {
				t.Fatalf("the part %d of the kind %d", i, kind)
			}
		}
		p := some(kind, 0, name)
		p.Items, p.Pairs, p.Ranks = []string{}, []api.Pair{}, make([]api.Ranked, 0, 5)
		wantOf(t, p, api.OK)
	}
}

// Two of one name are refused wherever they stand, and whatever else they have; a list may have them.
func TestP12_5_Doubles(t *testing.T) {
	for _, n := range []int{2, 3, 10, 40} {
		for i := range n {
			for j := range i {
				twice := func(k int) string {
					if k == i {
						return name(j)
					}
					return name(k)
				}
				wantOf(t, some(api.KdRecord, n, twice), api.ErrArg)
				wantOf(t, some(api.KdFlock, n, twice), api.ErrArg)
				wantOf(t, some(api.KdRanks, n, twice), api.ErrArg)
				of(t, some(api.KdList, n, twice), 1)
			}
		}
	}
	for _, s := range append(slices.Clone(oddTexts), long) {
		wantOf(t, api.Plain{Kind: api.KdRecord, Pairs: []api.Pair{{Field: s, Value: "1"}, {Field: s, Value: "2"}}}, api.ErrArg)
		wantOf(t, api.Plain{Kind: api.KdRecord, Pairs: []api.Pair{{Field: s, Value: "1"}, {Field: s, Value: "1"}}}, api.ErrArg)
		wantOf(t, api.Plain{Kind: api.KdFlock, Items: []string{s, s}}, api.ErrArg)
		wantOf(t, api.Plain{Kind: api.KdRanks, Ranks: []api.Ranked{{Member: s, Score: 1}, {Member: s, Score: 2}}}, api.ErrArg)
		wantOf(t, api.Plain{Kind: api.KdRanks, Ranks: []api.Ranked{{Member: s, Score: nought}, {Member: s}}}, api.ErrArg)
		of(t, api.Plain{Kind: api.KdList, Items: []string{s, s, s}}, 1)
	}
}

// What two fields hold may be the same; so may two scores; and a field may be what it holds, or another one holds.
func TestP12_5_NoDoubles(t *testing.T) {
	of(t, api.Plain{Kind: api.KdRecord, Pairs: []api.Pair{{Field: "a", Value: "b"}, {Field: "b", Value: "b"}, {Field: "c", Value: "a"}}}, 1)
	of(t, api.Plain{Kind: api.KdRanks, Ranks: []api.Ranked{{Member: "b", Score: 1}, {Member: "a", Score: 1}, {Member: "A", Score: 1}}}, 1)
	of(t, some(api.KdFlock, len(oddTexts), func(i int) string { return oddTexts[i] }), 1)
	of(t, some(api.KdRecord, len(oddTexts), func(i int) string { return oddTexts[i] }), 1)
	of(t, some(api.KdRanks, len(oddTexts), func(i int) string { return oddTexts[i] }), 1)
}

func TestP12_5_Scores(t *testing.T) {
	nans := []float64{math.NaN(), -math.NaN(), math.Float64frombits(0x7ff0000000000001), math.Float64frombits(0xffffffffffffffff)}
	for _, n := range []int{1, 2, 7} {
		for at := range n {
			for _, x := range append(slices.Clone(nans), scores...) {
				p := some(api.KdRanks, n, name)
				p.Ranks[at].Score = x
				if math.IsNaN(x) {
					wantOf(t, p, api.ErrArg)
				} else {
					of(t, p, 1)
				}
			}
		}
	}
}

// TestP12_5_Long: a text of MaxText bytes is taken in each part, one of one more is not, wherever it stands.
func TestP12_5_Long(t *testing.T) {
	for extra, want := range map[string]api.Errno{"": api.OK, "x": api.ErrLong} {
		s := long + extra
		for _, p := range []api.Plain{
			{Kind: api.KdText, Text: s},
			{Kind: api.KdList, Items: []string{s}},
			{Kind: api.KdList, Items: []string{"a", s, s, "b"}},
			{Kind: api.KdRecord, Pairs: []api.Pair{{Field: s}}},
			{Kind: api.KdRecord, Pairs: []api.Pair{{Value: s}}},
			{Kind: api.KdRecord, Pairs: []api.Pair{{Field: "a"}, {Field: "b", Value: s}, {Field: "c", Value: s}}},
			{Kind: api.KdRecord, Pairs: []api.Pair{{Field: "a", Value: "1"}, {Field: s, Value: "2"}, {Field: "b", Value: "3"}}},
			{Kind: api.KdFlock, Items: []string{s}},
			{Kind: api.KdFlock, Items: []string{"a", "b", s}},
			{Kind: api.KdRanks, Ranks: []api.Ranked{{Member: s, Score: 1}}},
			{Kind: api.KdRanks, Ranks: []api.Ranked{{Member: "a"}, {Member: s}, {Member: "b"}}},
		} {
			wantOf(t, p, want)
			holdOf(t, p, 1)
		}
	}
}

// TestP12_5_Full: MaxItems items are taken, of each kind, and the object has room for no more; one more is refused.
func TestP12_5_Full(t *testing.T) {
	for i, kind := range objects {
		v, code := Of(many(kind, 1048576), 6)
		if code != api.OK {
			t.Fatalf("the kind %d, 2^20 items: %d", kind, code)
		}
		d, _ := v.AsList()
		r, _ := v.AsRecord()
		f, _ := v.AsFlock()
		z, _ := v.AsRanks()
		if n := max(d.Len(), r.Len(), f.Len(), z.Len()); n != 1048576 {
			t.Errorf("the kind %d, 2^20 items: Len %d", kind, n)
		}
		if want := (24<<20 + []int64{0, 27 << 20, 8 << 20, 24 << 20}[i]); v.Cost() != want {
			t.Errorf("the kind %d, 2^20 items: Cost %d, not %d", kind, v.Cost(), want)
		}
		wantOf(t, many(kind, 1048577), api.ErrFull)
		wantOf(t, many(kind, 1048578), api.ErrFull)
		if Cost(many(kind, 1048577)) != 0 {
			t.Errorf("the kind %d: Cost of what is refused", kind)
		}
	}
}

// TestP12_5_TheFirstError: two errors at once, the first of their places ahead and behind.
func TestP12_5_TheFirstError(t *testing.T) {
	tooLong, nan := long+"x", math.NaN()
	for _, p := range []api.Plain{
		{Kind: 0, Text: tooLong},
		{Kind: 6, Items: []string{tooLong}},
		{Kind: api.KdText, Text: tooLong, Items: []string{"a"}},
		{Kind: api.KdText, Items: []string{tooLong}},
		{Kind: api.KdList, Text: tooLong},
		{Kind: api.KdList, Items: []string{tooLong}, Pairs: []api.Pair{{}}},
		{Kind: api.KdRecord, Pairs: []api.Pair{{Field: "a", Value: tooLong}, {Field: "a"}}},
		{Kind: api.KdRecord, Pairs: []api.Pair{{Field: "a"}, {Field: "a", Value: tooLong}}},
		{Kind: api.KdRecord, Pairs: []api.Pair{{Field: "a"}, {Field: "a"}, {Field: tooLong}}},
		{Kind: api.KdRecord, Pairs: []api.Pair{{Field: tooLong}, {Field: "a"}, {Field: "a"}}},
		{Kind: api.KdRecord, Pairs: []api.Pair{{Field: tooLong}, {Field: tooLong}}},
		{Kind: api.KdRecord, Pairs: []api.Pair{{Field: tooLong}}, Text: "x"},
		{Kind: api.KdFlock, Items: []string{"a", "a", tooLong}},
		{Kind: api.KdFlock, Items: []string{tooLong, "a", "a"}},
		{Kind: api.KdFlock, Items: []string{tooLong, tooLong}},
		{Kind: api.KdFlock, Items: []string{tooLong}, Ranks: []api.Ranked{{}}},
		{Kind: api.KdRanks, Ranks: []api.Ranked{{Member: tooLong, Score: nan}}},
		{Kind: api.KdRanks, Ranks: []api.Ranked{{Member: tooLong}, {Member: "a", Score: nan}}},
		{Kind: api.KdRanks, Ranks: []api.Ranked{{Member: "a", Score: nan}, {Member: tooLong}}},
		{Kind: api.KdRanks, Ranks: []api.Ranked{{Member: "a"}, {Member: "a"}, {Member: tooLong}}},
		{Kind: api.KdRanks, Ranks: []api.Ranked{{Member: tooLong}, {Member: "a"}, {Member: "a"}}},
	} {
		wantOf(t, p, api.ErrArg)
		if Cost(p) != 0 {
			t.Errorf("Cost(%s): %d", short(p), Cost(p))
		}
	}
}

func TestP12_5_TheFirstErrorOfTooMany(t *testing.T) {
	const most = 1048577
	for _, kind := range objects {
		for _, at := range []int{0, most / 2, most - 1} {
			p := many(kind, most)
			setName(p, at, long+"x")
			wantOf(t, p, api.ErrLong)
			p.Text = "stray"
			wantOf(t, p, api.ErrArg)
			p.Text, p.Kind = "", 9
			wantOf(t, p, api.ErrArg)
		}
		for _, at := range []int{1, most - 1} {
			p := many(kind, most)
			setName(p, at, manyNames()[0])
			want := api.ErrArg
			if kind == api.KdList {
				want = api.ErrFull
			}
			wantOf(t, p, want)
		}
	}
	for _, at := range []int{0, most - 1} {
		p := many(api.KdRanks, most)
		p.Ranks[at].Score = math.NaN()
		wantOf(t, p, api.ErrArg)
		q := many(api.KdRecord, most)
		q.Pairs[at].Value = long + "x"
		wantOf(t, q, api.ErrLong)
	}
	wantOf(t, api.Plain{Kind: api.KdFlock, Items: make([]string, 1<<22)}, api.ErrArg)
	wantOf(t, api.Plain{Kind: api.KdList, Items: make([]string, 1<<22)}, api.ErrFull)
}

func setName(p api.Plain, at int, s string) {
	switch p.Kind {
	case api.KdList, api.KdFlock:
		p.Items[at] = s
	case api.KdRecord:
		p.Pairs[at].Field = s
	case api.KdRanks:
		p.Ranks[at].Member = s
	}
}

// The objects are those of the seed, to which all was added in the order in which it was handed in: they lie so.
func TestP12_5_HowItLies(t *testing.T) {
	for _, seed := range seeds {
		for _, n := range []int{0, 1, 4, 5, 33, 100, 200} {
			for shuffle := range uint64(3) {
				order := rand.New(rand.NewPCG(seed, shuffle)).Perm(n)
				d, r, f := deque.New(), record.New(seed), flock.New(seed)
				for _, i := range order {
					d.Push(false, name(i))
					r.Set(name(i), "of "+name(i))
					f.Add(name(i))
				}
				for i, want := range []*Value{List(d), Record(r), Flock(f)} {
					v, code := Of(some(objects[i], n, func(i int) string { return name(order[i]) }), seed)
					if code != api.OK || !sameLie(v, want) {
						t.Fatalf("the kind %d, %d items, the seed %d: %d, or it lies otherwise", objects[i], n, seed, code)
					}
				}
			}
		}
	}
}

// Two seeds, and two orders, are two ways in which a flock lies: what HowItLies holds against each other is not one.
func TestP12_5_TheSeedIsSeen(t *testing.T) {
	for _, kind := range []int{api.KdRecord, api.KdFlock} {
		p := some(kind, 40, name)
		back := some(kind, 40, func(i int) string { return name(39 - i) })
		if sameLie(of(t, p, 1).v, of(t, p, 2).v) {
			t.Errorf("the kind %d: the seed is not seen", kind)
		}
		if sameLie(of(t, p, 1).v, of(t, back, 1).v) {
			t.Errorf("the kind %d: the order is not seen", kind)
		}
	}
}

// What Of was handed stays as it was, with the room behind its ends, and what is written there later is not seen.
func TestP12_5_WhatIsHandedIn(t *testing.T) {
	for _, kind := range kinds {
		p := some(kind, 37, name)
		p.Items = slices.Grow(p.Items, 20)
		p.Pairs = slices.Grow(p.Pairs, 20)
		p.Ranks = slices.Grow(p.Ranks, 20)
		if kind == api.KdText {
			p.Items, p.Pairs, p.Ranks = nil, nil, nil
		}
		before := withRoom(p)
		b := of(t, p, 8)
		Cost(p)
		b.put("new", 1)
		b.v.Plain()
		if !samePlain(withRoom(p), before) {
			t.Errorf("the kind %d: what was handed in is changed", kind)
		}
		spoil(p)
		hold(t, b.v, b.m)
		b.put("newer", 1)
	}
}

// withRoom tells the lists of plain data again, up to the ends of their room.
func withRoom(p api.Plain) api.Plain {
	p.Items = slices.Clone(p.Items[:cap(p.Items)])
	p.Pairs = slices.Clone(p.Pairs[:cap(p.Pairs)])
	p.Ranks = slices.Clone(p.Ranks[:cap(p.Ranks)])
	return p
}

// Refused plain data stays as it was too.
func TestP12_5_RefusedAndUnchanged(t *testing.T) {
	for _, kind := range objects {
		p := some(kind, 9, func(i int) string { return oddTexts[i%8] })
		if kind == api.KdList {
			p.Text = "stray"
		}
		before := withRoom(p)
		wantOf(t, p, api.ErrArg)
		if !samePlain(withRoom(p), before) {
			t.Errorf("the kind %d: what was refused is changed", kind)
		}
	}
}

// Two values of the same plain data are apart.
func TestP12_5_ValuesAreApart(t *testing.T) {
	for _, kind := range objects {
		p := some(kind, 40, name)
		a, b := of(t, p, 3), of(t, p, 3)
		for i := range 40 {
			a.put("new"+name(i), i)
			a.take(name(i), i)
			hold(t, b.v, b.m)
		}
	}
}

func TestP12_6_ChapterExamples(t *testing.T) {
	for _, e := range []struct {
		p    api.Plain
		want int64
	}{
		{api.Plain{Kind: api.KdRecord, Pairs: []api.Pair{{Field: "f", Value: "v"}}}, 34},
		{api.Plain{Kind: api.KdRanks, Ranks: []api.Ranked{{Member: "m", Score: 1}}}, 41},
		{api.Plain{Kind: api.KdFlock, Items: []string{"b", "a"}}, 50},
		{api.Plain{Kind: api.KdList, Items: []string{"xy"}}, 18},
		{api.Plain{Kind: api.KdList}, 0},
		{api.Plain{Kind: api.KdText, Text: "abc"}, 3},
	} {
		if got := Cost(e.p); got != e.want {
			t.Errorf("Cost(%s): %d, not %d", short(e.p), got, e.want)
		}
	}
}

func TestP12_6_Cost(t *testing.T) {
	for _, kind := range kinds {
		for _, n := range []int{0, 1, 2, 33, 300} {
			holdOf(t, some(kind, n, name), 1)
		}
	}
	for _, p := range []api.Plain{
		{},
		{Text: "abc"},
		{Kind: -1, Text: "abc"},
		{Kind: 6, Items: []string{"a"}},
		{Kind: api.KdText, Text: "abc", Ranks: []api.Ranked{{}}},
		{Kind: api.KdText, Text: long + "x"},
		{Kind: api.KdFlock, Items: []string{"a", "b", "a"}},
		{Kind: api.KdRecord, Pairs: []api.Pair{{Field: "a"}, {Field: "b"}, {Field: "a"}}},
		{Kind: api.KdRanks, Ranks: []api.Ranked{{Member: "a"}, {Member: "b", Score: math.NaN()}}},
		{Kind: api.KdRanks, Ranks: []api.Ranked{{Member: "a"}, {Member: long + "x"}}},
	} {
		if got := Cost(p); got != 0 {
			t.Errorf("Cost(%s): %d, and Of refuses it", short(p), got)
		}
	}
}

// TestP12_7_ToldAndMadeAgain: of what Plain told, with any seed, comes a value of the same Plain and the same Cost.
func TestP12_7_ToldAndMadeAgain(t *testing.T) {
	for _, kind := range kinds {
		for _, n := range []int{0, 1, 3, 32, 33, 150} {
			b := of(t, some(kind, n, name), 5)
			for i := range n / 2 {
				b.take(name(i), i)
				b.put(name(2*i), i)
			}
			p := b.v.Plain()
			for _, seed := range seeds {
				again, code := Of(p, seed)
				if code != api.OK || !samePlain(again.Plain(), p) || again.Cost() != b.v.Cost() || Cost(p) != b.v.Cost() {
					t.Fatalf("the kind %d, %d items, the seed %d: %d", kind, n, seed, code)
				}
				hold(t, again, b.m)
			}
		}
	}
}

func TestP12_7_EveryScore(t *testing.T) {
	p := api.Plain{Kind: api.KdRanks}
	for i, x := range scores {
		p.Ranks = append(p.Ranks, api.Ranked{Member: oddTexts[i], Score: x})
	}
	b := of(t, p, 1)
	again := of(t, b.v.Plain(), 2)
	wantPlain(t, again.v, b.v.Plain())
}

// TestP12_8_Orders: pairs, members and ranks may stand in any order; texts of a list may not.
func TestP12_8_Orders(t *testing.T) {
	for _, kind := range objects {
		for _, n := range []int{2, 3, 4, 5} {
			first := of(t, some(kind, n, name), 1)
			for _, order := range orders(n) {
				other := of(t, inOrder(first.m.plain(), order), 1)
				if other.v.Cost() != first.v.Cost() || Cost(other.v.Plain()) != first.v.Cost() {
					t.Fatalf("the kind %d, %v: Cost %d, not %d", kind, order, other.v.Cost(), first.v.Cost())
				}
				same := samePlain(other.v.Plain(), first.v.Plain())
				if want := kind != api.KdList || slices.IsSorted(order); same != want {
					t.Fatalf("the kind %d, %v: Plain is the same: %v", kind, order, same)
				}
			}
		}
	}
}

// inOrder tells plain data with its items in another order.
func inOrder(p api.Plain, order []int) api.Plain {
	q := api.Plain{Kind: p.Kind}
	for _, i := range order {
		switch p.Kind {
		case api.KdList, api.KdFlock:
			q.Items = append(q.Items, p.Items[i])
		case api.KdRecord:
			q.Pairs = append(q.Pairs, p.Pairs[i])
		case api.KdRanks:
			q.Ranks = append(q.Ranks, p.Ranks[i])
		}
	}
	return q
}

// orders tells all orders of so many places.
func orders(n int) [][]int {
	if n == 0 {
		return [][]int{{}}
	}
	var all [][]int
	for _, order := range orders(n - 1) {
		for at := range n {
			all = append(all, slices.Insert(slices.Clone(order), at, n-1))
		}
	}
	return all
}

func TestP12_8_OrdersOfMany(t *testing.T) {
	for _, kind := range objects {
		p := of(t, some(kind, 300, name), 1).v.Plain()
		for seed := range uint64(5) {
			v := of(t, inOrder(p, rand.New(rand.NewPCG(seed, 8)).Perm(300)), seed).v
			if same := samePlain(v.Plain(), p); same != (kind != api.KdList) || v.Cost() != Cost(p) {
				t.Errorf("the kind %d: Plain is the same: %v, Cost %d", kind, same, v.Cost())
			}
		}
	}
}

// TestP12_9_CopiesAreApart: whatever is done to one is not seen in the other, nor in a copy of the copy.
func TestP12_9_CopiesAreApart(t *testing.T) {
	for _, kind := range kinds {
		for _, n := range []int{0, 1, 32, 50} {
			b := of(t, some(kind, n, name), 11)
			c := b.copy()
			cc := c.copy()
			for i := range 40 {
				b.put("b"+name(i), i)
				hold(t, c.v, c.m)
				c.take(name(i), i)
				hold(t, b.v, b.m)
				hold(t, cc.v, cc.m)
			}
			for i := range 60 {
				b.take(name(i), i)
				cc.put(name(i), i)
				hold(t, c.v, c.m)
			}
			hold(t, b.v, b.m)
		}
	}
}

// A copy's objects are its own; a copy of a value of no object is one too.
func TestP12_9_OtherObjects(t *testing.T) {
	for _, kind := range objects {
		v := ofNone(kind)
		c := v.Copy()
		if c == v {
			t.Errorf("the kind %d: the copy is the value", kind)
		}
		both{t, c, newSpelled(kind)}.put("a", 1)
		hold(t, v, newSpelled(kind))
		v = ofNone(kind)
		c = v.Copy()
		both{t, v, newSpelled(kind)}.put("a", 1)
		hold(t, c, newSpelled(kind))
	}
}
