package record

import (
	"maps"
	"math"
	"math/rand/v2"
	"slices"
	"strconv"
	"strings"
	"testing"

	"pantry/api"
	"pantry/dict"
	"pantry/scan"
)

var long = strings.Repeat("l", 1048576)

// oddFields are fields of every sort, not in their order.
var oddFields = []string{"b", "", "a", "\xff", "ab", "\x00", "B", "a\x00", "é", "10", "9", "\x00\x00", "aa", "\xff\xff", "a\r\nb", "\x7f", "\x80", " ", strings.Repeat("a", 300)}

// seeds are some that a record may be made with.
var seeds = []uint64{0, 1, 2, 77, 1 << 32, 1 << 63, math.MaxUint64}

// changes are calls of every kind that may change a record which has the field f0.
var changes = []struct {
	name string
	do   func(b both)
}{
	{"Set of a new field", func(b both) { b.set("new", "x") }},
	{"Set of the empty field", func(b both) { b.set("", "") }},
	{"Set of a field that is there", func(b both) { b.set(name(0), "another text") }},
	{"Set of what it holds", func(b both) { b.set(name(0), "0") }},
	{"Set of too long a text", func(b both) { b.set(name(0), long+"x") }},
	{"Delete", func(b both) { b.delete(name(0)) }},
	{"Delete of nobody", func(b both) { b.delete("nobody") }},
	{"Get", func(b both) { b.get(name(0)) }},
	{"Get of nobody", func(b both) { b.get("nobody") }},
	{"Set of many", func(b both) { b.fill(0, 150) }},
	{"Delete of all", func(b both) {
		for _, p := range b.m.pairs() {
			b.delete(p.Field)
		}
	}},
}

// states are records that move, that do not, and that have nothing.
func states(t *testing.T) []both {
	t.Helper()
	emptied := filled(t, 3, 20)
	for i := range 20 {
		emptied.delete(name(i))
	}
	onTheWay := growing(t, 9, 32)
	for range 5 {
		onTheWay.get("nobody")
	}
	return []both{newBoth(t, 1), emptied, filled(t, 2, 1), filled(t, 0, 4), filled(t, 5, 30), growing(t, 4, 4),
		growing(t, 6, 32), onTheWay, shrinking(t, 7, 16), shrinking(t, 8, 64)}
}

func TestP9_1_NewAndLen(t *testing.T) {
	for _, seed := range seeds {
		r := New(seed)
		if r == nil || r.Len() != 0 || len(r.Pairs()) != 0 || r.Cost() != 0 {
			t.Fatal("a new record has fields, or is none")
		}
		for i := range 100 {
			r.Set(name(i), "x")
			if r.Len() != i+1 {
				t.Fatalf("Len: %d behind %d new fields", r.Len(), i+1)
			}
			r.Set(name(i/2), "y")
			r.Delete("nobody")
			r.Set(name(i), long+"x")
			if r.Len() != i+1 {
				t.Fatalf("Len: %d behind calls that bring and take nothing", r.Len())
			}
		}
		for i := range 100 {
			r.Delete(name(i))
			if r.Len() != 99-i {
				t.Fatalf("Len: %d behind %d fields that went", r.Len(), i+1)
			}
		}
	}
}

// The dictionary is one of the seed: it lies as dict.New of the seed does, and otherwise with another one.
func TestP9_1_TheSeed(t *testing.T) {
	var orders [][]string
	for _, seed := range seeds {
		b := filled(t, seed, 40)
		_, fields := b.r.Scan(0, 100)
		for _, other := range orders {
			if slices.Equal(fields, other) {
				t.Errorf("the seed %d is not seen: %q", seed, fields)
			}
		}
		orders = append(orders, fields)
	}
}

func TestP9_1_RecordsAreApart(t *testing.T) {
	a, b := newBoth(t, 5), newBoth(t, 5)
	for i := range 40 {
		a.set(name(i), "a")
		b.set(name(-i), "b")
		hold(t, a.r, a.m)
	}
	for i := range 40 {
		b.delete(name(-i))
		hold(t, a.r, a.m)
	}
}

func TestP9_2_Get(t *testing.T) {
	r := New(3)
	for i, field := range oddFields {
		if s, ok := r.Get(field); s != "" || ok {
			t.Errorf("Get(%q) ahead of Set: %q %v", field, s, ok)
		}
		r.Set(field, strconv.Itoa(i))
	}
	for i, field := range oddFields {
		if s, ok := r.Get(field); s != strconv.Itoa(i) || !ok {
			t.Errorf("Get(%q): %q %v", field, s, ok)
		}
		r.Set(field, field)
		if s, ok := r.Get(field); s != field || !ok {
			t.Errorf("Get(%q) behind another Set: %q %v", field, s, ok)
		}
		r.Delete(field)
		if s, ok := r.Get(field); s != "" || ok {
			t.Errorf("Get(%q) behind Delete: %q %v", field, s, ok)
		}
	}
	for _, field := range []string{long, long + "x", long + long} {
		if s, ok := r.Get(field); s != "" || ok {
			t.Errorf("Get of %d bytes: %.40q %v", len(field), s, ok)
		}
	}
}

// A text without bytes is there; a field that is not there holds none.
func TestP9_2_TheEmptyText(t *testing.T) {
	r := New(0)
	if fresh, code := r.Set("f", ""); !fresh || code != api.OK {
		t.Errorf("Set: %v %d", fresh, code)
	}
	if s, ok := r.Get("f"); s != "" || !ok {
		t.Errorf("Get: %q %v", s, ok)
	}
	if fresh, code := r.Set("f", ""); fresh || code != api.OK {
		t.Errorf("Set once more: %v %d", fresh, code)
	}
	if s, ok := r.Get(""); s != "" || ok {
		t.Errorf("Get of the empty field: %q %v", s, ok)
	}
	if !r.Delete("f") {
		t.Error("Delete of a field that holds the empty text")
	}
}

// shown is what each cursor of a table of 32 buckets tells.
func shown(next func(cursor uint64, count int) (uint64, []string)) string {
	var b strings.Builder
	for c := range uint64(32) {
		behind, fields := next(c, 1)
		b.WriteString(strconv.FormatUint(behind, 10) + " " + strings.Join(fields, " ") + "\n")
	}
	return b.String()
}

// stepped is what the dictionary of a record that has just begun to grow shows behind 0, 1, 2 and 3 steps, all of it
// different; false, if two of these look alike with that seed.
func stepped(t *testing.T, seed uint64) ([]string, bool) {
	t.Helper()
	m := growing(t, seed, 16).m
	var l []string
	for range 4 {
		now := shown(func(c uint64, count int) (uint64, []string) { return scan.Next(m.lies, c, count) })
		if slices.Contains(l, now) {
			return nil, false
		}
		l = append(l, now)
		m.lies.Get("nobody")
	}
	return l, true
}

// Whoever does a step of the dictionary moves the first chain that was not moved, and Scan shows it.
func TestP9_6_WhoDoesAStep(t *testing.T) {
	tried := 0
	for seed := uint64(0); tried < 5; seed++ {
		behind, apart := stepped(t, seed)
		if !apart {
			continue
		}
		tried++
		for _, row := range []struct {
			name string
			want int
			call func(r *Record)
		}{
			{"Get", 1, func(r *Record) { r.Get(name(0)) }},
			{"Get of nobody", 1, func(r *Record) { r.Get("nobody") }},
			{"Get of too long a field", 1, func(r *Record) { r.Get(long + "x") }},
			{"Set of a field that is there", 2, func(r *Record) { r.Set(name(0), "x") }},
			{"Set of what it holds", 2, func(r *Record) { r.Set(name(0), "0") }},
			{"Set of too long a field", 0, func(r *Record) { r.Set(long+"x", "") }},
			{"Set of too long a text", 0, func(r *Record) { r.Set(name(0), long+"x") }},
			{"Delete of nobody", 1, func(r *Record) { r.Delete("nobody") }},
			{"Delete of too long a field", 1, func(r *Record) { r.Delete(long + "x") }},
			{"Len", 0, func(r *Record) { r.Len() }},
			{"Pairs", 0, func(r *Record) { r.Pairs() }},
			{"Sample", 0, func(r *Record) { r.Sample(3) }},
			{"Scan", 0, func(r *Record) { r.Scan(0, 1) }},
			{"Scan of all", 0, func(r *Record) { r.Scan(0, 1000) }},
			{"Cost", 0, func(r *Record) { r.Cost() }},
			{"Copy", 0, func(r *Record) { r.Copy() }},
		} {
			r := growing(t, seed, 16).r
			row.call(r)
			if got := slices.Index(behind, shown(r.Scan)); got != row.want {
				t.Errorf("%s (seed %d): %d steps, not %d", row.name, seed, got, row.want)
			}
		}
	}
}

// A field that is new goes to its place behind two steps, and one that is deleted is taken out behind two.
func TestP9_6_StepsOfSetAndDelete(t *testing.T) {
	for seed := range uint64(6) {
		for _, more := range []bool{true, false} {
			b := growing(t, seed, 32)
			for i := 0; b.m.moving(); i++ {
				_, _, before := b.m.lies.Sizes()
				if more {
					b.set("more"+strconv.Itoa(i), "")
				} else {
					b.delete(name(i))
				}
				if _, _, at := b.m.lies.Sizes(); b.m.moving() && at < before+2 {
					t.Fatalf("the model went from %d to %d alone", before, at)
				}
			}
		}
	}
}

func TestP9_3_ChapterExamples(t *testing.T) {
	r := New(0)
	for _, row := range []struct {
		field, s string
		fresh    bool
	}{{"b", "1", true}, {"a", "22", true}, {"b", "333", false}} {
		if fresh, code := r.Set(row.field, row.s); fresh != row.fresh || code != api.OK {
			t.Errorf("Set(%s, %s): %v %d", row.field, row.s, fresh, code)
		}
	}
	want := []api.Pair{{Field: "a", Value: "22"}, {Field: "b", Value: "333"}}
	if r.Len() != 2 || !slices.Equal(r.Pairs(), want) || r.Cost() != 71 {
		t.Error(r.Len(), r.Pairs(), r.Cost())
	}
	if a, ok := r.Sample(0); a != "a" || !ok {
		t.Errorf("Sample(0): %q %v", a, ok)
	}
	if b, ok := r.Sample(3); b != "b" || !ok {
		t.Errorf("Sample(3): %q %v", b, ok)
	}
	if fresh, code := r.Set(strings.Repeat("x", 1048577), ""); fresh || code != api.ErrLong {
		t.Errorf("Set of a field of 1048577 bytes: %v %d", fresh, code)
	}
	if r.Len() != 2 || !slices.Equal(r.Pairs(), want) || r.Cost() != 71 {
		t.Error(r.Len(), r.Pairs(), r.Cost())
	}
}

func TestP9_3_LongTexts(t *testing.T) {
	for _, b := range states(t) {
		b.set(long, "x")
		b.set("x", long)
		b.set(long, long)
		for _, row := range [][2]string{{long + "x", ""}, {"", long + "x"}, {long + "x", long + "x"}, {long + "x", long},
			{long, long + "x"}, {"x", long + "x"}, {name(0), long + "x"}, {long + long, ""}, {"y", long + long}} {
			if fresh, code := b.r.Set(row[0], row[1]); fresh || code != api.ErrLong {
				t.Errorf("Set of %d and %d bytes: %v %d", len(row[0]), len(row[1]), fresh, code)
			}
			hold(t, b.r, b.m)
		}
		if got := b.r.Cost(); got < 3*1048576 {
			t.Errorf("Cost: %d", got)
		}
	}
}

// A new field is told as new once, and again when it was away.
func TestP9_3_WhatIsNew(t *testing.T) {
	r := New(8)
	for range 3 {
		for i, field := range oddFields {
			if fresh, code := r.Set(field, strconv.Itoa(i)); !fresh || code != api.OK {
				t.Errorf("Set(%q): %v %d", field, fresh, code)
			}
			if fresh, code := r.Set(field, "again"); fresh || code != api.OK {
				t.Errorf("Set(%q) again: %v %d", field, fresh, code)
			}
		}
		for _, field := range oddFields {
			if !r.Delete(field) || r.Delete(field) {
				t.Errorf("Delete(%q), once and again", field)
			}
		}
	}
}

// allOf makes a record with as many fields as may be, 0 and 1 and so on, that hold nothing.
func allOf(t *testing.T) (r *Record, cost int64) {
	t.Helper()
	r = New(9)
	for i := range 1048576 {
		field := strconv.Itoa(i)
		if fresh, code := r.Set(field, ""); !fresh || code != api.OK {
			t.Fatalf("Set of the field %d: %v %d", i, fresh, code)
		}
		cost += 32 + int64(len(field))
	}
	return r, cost
}

// look is what is seen of a great record: Pairs takes too long to be asked each time.
func look(r *Record) (cursor uint64, fields []string, length int, cost int64) {
	cursor, fields = r.Scan(0, 1000)
	return cursor, fields, r.Len(), r.Cost()
}

func TestP9_3_AsManyAsMayBe(t *testing.T) {
	r, cost := allOf(t)
	cursor, fields, length, is := look(r)
	if length != 1048576 || is != cost {
		t.Fatalf("%d fields that cost %d, not %d", length, is, cost)
	}
	for _, row := range []struct {
		field, s string
		code     api.Errno
	}{
		{"more", "", api.ErrFull}, {"", "", api.ErrFull}, {"1048576", "x", api.ErrFull}, {long, long, api.ErrFull},
		{"more", long + "x", api.ErrLong}, {long + "x", "", api.ErrLong}, {"7", long + "x", api.ErrLong},
	} {
		if fresh, code := r.Set(row.field, row.s); fresh || code != row.code {
			t.Errorf("Set(%.20q, %.20q) at all fields: %v %d, not %d", row.field, row.s, fresh, code, row.code)
		}
		if _, ok := r.Get(row.field); ok != (row.field == "7") {
			t.Errorf("%.20q: %v", row.field, ok)
		}
		if c, l, n, x := look(r); c != cursor || !slices.Equal(l, fields) || n != length || x != cost {
			t.Fatalf("Set(%.20q, %.20q) changed something", row.field, row.s)
		}
	}
	if fresh, code := r.Set("7", "xyz"); fresh || code != api.OK || r.Len() != length || r.Cost() != cost+3 {
		t.Errorf("Set of a field that is there, at all fields: %v %d, Cost %d", fresh, code, r.Cost())
	}
	if s, ok := r.Get("7"); s != "xyz" || !ok {
		t.Errorf("Get: %q %v", s, ok)
	}
	r.Delete("8")
	if fresh, code := r.Set("more", "x"); !fresh || code != api.OK || r.Len() != length || r.Cost() != cost+3-33+37 {
		t.Errorf("Set where there is room again: %v %d, Cost %d", fresh, code, r.Cost())
	}
	if fresh, code := r.Set("8", ""); fresh || code != api.ErrFull {
		t.Errorf("Set at all fields once more: %v %d", fresh, code)
	}
	wholeCopy(t, r)
}

// wholeCopy asks the calls that go through all fields, where there are as many as may be.
func wholeCopy(t *testing.T, r *Record) {
	t.Helper()
	pairs := r.Pairs()
	rising := slices.IsSortedFunc(pairs, func(a, b api.Pair) int { return strings.Compare(a.Field, b.Field) })
	if len(pairs) != 1048576 || !rising || costOfPairs(pairs) != r.Cost() {
		t.Errorf("%d pairs, rising: %v, that cost %d, not %d", len(pairs), rising, costOfPairs(pairs), r.Cost())
	}
	if last, ok := r.Sample(math.MaxUint64); last != pairs[1048575].Field || !ok { // 2^64 - 1 mod 2^20
		t.Errorf("Sample: %q %v", last, ok)
	}
	c := r.Copy()
	if c.Len() != r.Len() || c.Cost() != r.Cost() || !slices.Equal(c.Pairs(), pairs) {
		t.Errorf("the copy has %d fields that cost %d", c.Len(), c.Cost())
	}
	if fresh, code := c.Set("yet another", ""); fresh || code != api.ErrFull {
		t.Errorf("Set into the copy: %v %d", fresh, code)
	}
}

func TestP9_4_ChapterExamples(t *testing.T) {
	r := New(0)
	r.Set("b", "333")
	r.Set("a", "22")
	if !r.Delete("a") || r.Delete("a") {
		t.Error("Delete(a), once and again")
	}
	if s, ok := r.Get("a"); s != "" || ok {
		t.Errorf("Get(a): %q %v", s, ok)
	}
	if r.Cost() != 36 || r.Len() != 1 {
		t.Error(r.Cost(), r.Len())
	}
}

func TestP9_4_EveryField(t *testing.T) {
	for _, b := range states(t) {
		b.delete("nobody")
		b.delete("")
		b.delete(long + "x")
		for _, p := range b.m.pairs() {
			b.delete(p.Field)
			b.delete(p.Field)
		}
		if b.r.Len() != 0 || b.r.Cost() != 0 {
			t.Errorf("%d are left, that cost %d", b.r.Len(), b.r.Cost())
		}
		b.set(name(0), "again")
	}
}

func TestP9_5_PairsRise(t *testing.T) {
	want := []string{"", "\x00", "\x00\x00", " ", "10", "9", "B", "a", "a\x00", "a\r\nb", "aa", strings.Repeat("a", 300), "ab", "b", "\x7f", "\x80", "é", "\xff", "\xff\xff"}
	if len(want) != len(oddFields) {
		t.Fatal("not the same fields")
	}
	for _, seed := range seeds {
		r := New(seed)
		for _, field := range oddFields {
			r.Set(field, "of "+field)
		}
		for i, p := range r.Pairs() {
			if p.Field != want[i] || p.Value != "of "+want[i] {
				t.Errorf("the pair %d: %q %q, not %q", i, p.Field, p.Value, want[i])
			}
		}
		for i, field := range want {
			if got, ok := r.Sample(uint64(i)); got != field || !ok {
				t.Errorf("Sample(%d): %q %v, not %q", i, got, ok, field)
			}
		}
	}
}

func TestP9_5_PairsAreNewMemory(t *testing.T) {
	for _, b := range states(t) {
		first, second := b.r.Pairs(), b.r.Pairs()
		for i := range first {
			first[i] = api.Pair{Field: "written", Value: "over"}
		}
		_ = append(first, api.Pair{Field: "behind", Value: "it"})
		if !slices.Equal(second, b.m.pairs()) {
			t.Errorf("what was told before shows what was written: %s", short(second))
		}
		hold(t, b.r, b.m)
		stood := b.m.pairs()
		b.set("new", "x")
		b.set(name(0), "y")
		b.delete(name(1))
		if !slices.Equal(second, stood) {
			t.Errorf("what was told before shows what was changed later: %s", short(second))
		}
	}
}

func TestP9_5_Sample(t *testing.T) {
	for n := 1; n <= 70; n++ {
		b := filled(t, uint64(n), n)
		pairs := b.m.pairs()
		for i := range uint64(3*n + 2) {
			holdSample(t, b.r, pairs, i)
		}
		for _, x := range []uint64{1 << 31, 1<<32 - 1, 1 << 32, 1 << 62, 1<<63 - 1, 1 << 63, math.MaxUint64 - 1, math.MaxUint64} {
			holdSample(t, b.r, pairs, x)
		}
		if first, ok := b.r.Sample(uint64(n)); first != pairs[0].Field || !ok {
			t.Errorf("Sample(Len): %q %v", first, ok)
		}
	}
	b := filled(t, 1, 10)
	if got, _ := b.r.Sample(math.MaxUint64); got != "f5" { // 18446744073709551615 mod 10
		t.Errorf("Sample of the greatest number: %q", got)
	}
}

func TestP9_5_NobodyToSample(t *testing.T) {
	emptied := filled(t, 4, 9)
	for i := range 9 {
		emptied.delete(name(i))
	}
	for _, r := range []*Record{nil, New(0), emptied.r, New(3).Copy()} {
		for _, n := range []uint64{0, 1, 5, 1 << 63, math.MaxUint64} {
			if got, ok := r.Sample(n); got != "" || ok {
				t.Errorf("Sample(%d) of nobody: %q %v", n, got, ok)
			}
		}
	}
}

func TestP9_5_Cost(t *testing.T) {
	r := New(6)
	for _, row := range []struct {
		name string
		do   func()
		want int64
	}{
		{"new", func() {}, 0},
		{"the empty field with the empty text", func() { r.Set("", "") }, 32},
		{"a text for it", func() { r.Set("", "abc") }, 35},
		{"a field", func() { r.Set("field", "") }, 72},
		{"a text for it", func() { r.Set("field", "0123456789") }, 82},
		{"a shorter one", func() { r.Set("field", "01") }, 74},
		{"the same", func() { r.Set("field", "01") }, 74},
		{"another one as long", func() { r.Set("field", "10") }, 74},
		{"none", func() { r.Set("field", "") }, 72},
		{"too long a text", func() { r.Set("field", long+"x") }, 72},
		{"too long a field", func() { r.Set(long+"x", "") }, 72},
		{"bytes, not letters", func() { r.Set("é", "€") }, 72 + 32 + 2 + 3},
		{"as long as may be", func() { r.Set(long, long) }, 109 + 32 + 2*1048576},
		{"it goes", func() { r.Delete(long) }, 109},
		{"nobody goes", func() { r.Delete("nobody") }, 109},
		{"the first goes", func() { r.Delete("") }, 74},
		{"asked for", func() { r.Get("field"); r.Get("nobody") }, 74},
		{"the next goes", func() { r.Delete("field") }, 37},
		{"the last goes", func() { r.Delete("é") }, 0},
		{"there is none any more", func() { r.Delete("é") }, 0},
	} {
		row.do()
		if r.Cost() != row.want || r.Copy().Cost() != row.want || costOfPairs(r.Pairs()) != row.want {
			t.Errorf("%s: %d, of the copy %d, not %d", row.name, r.Cost(), r.Copy().Cost(), row.want)
		}
	}
}

func TestP9_6_ChapterExamples(t *testing.T) {
	r := New(0)
	if s, ok := r.Sample(5); s != "" || ok {
		t.Errorf("Sample: %q %v", s, ok)
	}
	if c, l := r.Scan(9, 9); c != 0 || len(l) != 0 {
		t.Errorf("Scan: %d %q", c, l)
	}
}

func TestP9_6_EveryCursorAndCount(t *testing.T) {
	for _, b := range states(t) {
		old, young, _ := b.m.lies.Sizes()
		most := uint64(max(old, young, 1))
		for c := range most {
			for _, high := range []uint64{0, most, -most, 1 << 63} {
				for _, count := range []int{math.MinInt, -1, 0, 1, 2, 3, b.r.Len(), b.r.Len() + 1, math.MaxInt} {
					holdNext(t, b.r, b.m, c+high, count)
				}
			}
		}
		hold(t, b.r, b.m)
	}
}

// The order is that of the chains: a field of a small table stands ahead of those that came before it.
func TestP9_6_ChainsOrder(t *testing.T) {
	for seed := range uint64(5) {
		r, d := New(seed), dict.New[string](seed)
		for i := range 4 {
			r.Set(name(i), "x")
			d.Set(name(i), "x")
		}
		for c := range uint64(4) {
			if _, fields := r.Scan(c, 1); len(d.Bucket(0, int(c))) > 0 && !slices.Equal(fields, d.Bucket(0, int(c))) {
				t.Errorf("the bucket %d: %q, not %q", c, fields, d.Bucket(0, int(c)))
			}
		}
	}
}

func TestP9_6_ToldInMemoryOfItsOwn(t *testing.T) {
	for _, b := range states(t) {
		for _, count := range []int{1, 5, 1000} {
			_, first := b.r.Scan(0, count)
			_, second := b.r.Scan(0, count)
			want := slices.Clone(first)
			for i := range first {
				first[i] = "written"
			}
			_ = append(first, "behind", "it")
			if !slices.Equal(second, want) {
				t.Errorf("what was told before shows what was written: %q", second)
			}
			hold(t, b.r, b.m)
		}
	}
}

// The copy lies as a record into which the fields were set in their order, whatever was done to the other one.
func TestP9_7_Copy(t *testing.T) {
	differ := false
	for _, b := range states(t) {
		c := b.copy()
		hold(t, c.r, c.m)
		hold(t, b.r, b.m)
		plain := New(b.m.seed)
		for _, p := range b.r.Pairs() {
			plain.Set(p.Field, p.Value)
		}
		hold(t, plain, c.m)
		_, here := b.r.Scan(0, 1000)
		_, there := c.r.Scan(0, 1000)
		differ = differ || !slices.Equal(here, there)
	}
	if !differ {
		t.Error("no copy lies otherwise than what it was made of: nothing is told by that")
	}
}

func TestP9_7_CopyIsApart(t *testing.T) {
	for i := range states(t) {
		for _, c := range changes {
			b := states(t)[i]
			other := b.copy()
			c.do(b)
			hold(t, other.r, other.m)
			third := other.copy()
			c.do(other)
			hold(t, b.r, b.m)
			hold(t, third.r, third.m)
		}
	}
}

// The copy of a copy, and what is set into it, still lies by the first one's seed.
func TestP9_7_TheSeedGoesOn(t *testing.T) {
	for _, seed := range seeds {
		b := newBoth(t, seed).copy().copy()
		b.fill(0, 50)
		b = b.copy()
		b.fill(50, 100)
	}
}

func TestP9_7_CopyOfNoRecord(t *testing.T) {
	var none *Record
	a, b := none.Copy(), none.Copy()
	if a == nil || b == nil || a == b {
		t.Fatal("the copy of no record is no record, or one for all")
	}
	c := both{t, a, newSpelled(0)}
	hold(t, c.r, c.m)
	c.fill(0, 60)
	if b.Len() != 0 {
		t.Error("one is seen in the other")
	}
}

// What is asked of no record, and what it is told: R1.
func TestP9_7_NoRecord(t *testing.T) {
	var r *Record
	for _, field := range []string{"", "a", long, long + "x"} {
		if s, ok := r.Get(field); s != "" || ok {
			t.Errorf("Get: %q %v", s, ok)
		}
		if r.Delete(field) {
			t.Error("Delete")
		}
		for _, s := range []string{"", "b", long + "x"} {
			if fresh, code := r.Set(field, s); fresh || code != api.ErrNil {
				t.Errorf("Set: %v %d", fresh, code)
			}
		}
	}
	for _, n := range []uint64{0, 1, 77, 1 << 63, math.MaxUint64} {
		if s, ok := r.Sample(n); s != "" || ok {
			t.Errorf("Sample(%d): %q %v", n, s, ok)
		}
		for _, count := range []int{math.MinInt, -1, 0, 1, 10, math.MaxInt} {
			if c, l := r.Scan(n, count); c != 0 || len(l) != 0 {
				t.Errorf("Scan(%d, %d): %d %q", n, count, c, l)
			}
		}
	}
	if r.Len() != 0 || r.Cost() != 0 || len(r.Pairs()) != 0 {
		t.Error(r.Len(), r.Cost(), r.Pairs())
	}
}

// The same is done to records of many seeds: nothing but Scan tells them apart.
func TestP9_8_WhateverTheSeed(t *testing.T) {
	for round := range uint64(20) {
		var records []*Record
		for _, seed := range seeds {
			records = append(records, New(seed))
		}
		r := rand.New(rand.NewPCG(8, round))
		for range 300 {
			field, s, n, what := anyField(r, 40), anyText(r), r.Uint64(), r.IntN(5)
			first := answer(records[0], what, field, s, n)
			for i, one := range records[1:] {
				if got := answer(one, what, field, s, n); got != first {
					t.Fatalf("seeds %d and %d, call %d: %.200s, not %.200s", seeds[i+1], seeds[0], what, got, first)
				}
			}
		}
	}
}

// answer does one call, and tells all that comes of it and all that is there then.
func answer(r *Record, what int, field, s string, n uint64) string {
	var told string
	var ok bool
	code := api.OK
	switch what {
	case 0, 1:
		ok, code = r.Set(field, s)
	case 2:
		ok = r.Delete(field)
	case 3:
		told, ok = r.Get(field)
	case 4:
		told, ok = r.Sample(n)
	}
	return strings.Join([]string{strconv.Quote(told), strconv.FormatBool(ok), strconv.Itoa(int(code)), strconv.Itoa(r.Len()),
		strconv.FormatInt(r.Cost(), 10), short(r.Pairs())}, " ")
}

// round scans from 0 to 0, and tells how often each field was told.
func round(t *testing.T, r *Record, count int, between func(call int)) map[string]int {
	t.Helper()
	told := map[string]int{}
	cursor := uint64(0)
	for call := 1; call < 1<<20; call++ {
		next, fields := r.Scan(cursor, count)
		for _, field := range fields {
			told[field]++
		}
		if next == 0 {
			return told
		}
		cursor = next
		between(call)
	}
	t.Fatal("the scan does not end")
	return nil
}

func wantTold(t *testing.T, told map[string]int, stayed []string) {
	t.Helper()
	for _, field := range stayed {
		if told[field] == 0 {
			t.Fatalf("%.40q was missed", field)
		}
	}
}

func TestP9_9_NothingIsChangedMeanwhile(t *testing.T) {
	for _, b := range states(t) {
		for _, count := range []int{-1, 0, 1, 2, 10, 1000} {
			told := round(t, b.r, count, func(int) {})
			if len(told) != b.r.Len() {
				t.Errorf("%d fields told of %d", len(told), b.r.Len())
			}
			for _, p := range b.r.Pairs() {
				if told[p.Field] != 1 {
					t.Errorf("%s was told %d times", p.Field, told[p.Field])
				}
			}
		}
	}
}

// Some fields come, or go, with each call of a round, and those that stay get other texts.
func TestP9_9_ItGrowsAndShrinksMeanwhile(t *testing.T) {
	for _, many := range []int{1, 2, 5, 17, 60} {
		for _, first := range []int{0, 600} {
			for seed := range uint64(6) {
				r := New(seed)
				var stay []string
				for i := range 20 {
					stay = append(stay, "stays"+strconv.Itoa(i))
					r.Set(stay[i], "")
				}
				for i := range first {
					r.Set(name(i), "x")
				}
				gone, come := 0, first
				told := round(t, r, 1, func(call int) {
					r.Set(stay[call%20], strconv.Itoa(call))
					for range many {
						if first > 0 {
							r.Delete(name(gone))
							gone++
						} else if come++; come < 2000 {
							r.Set(name(come), "")
						}
					}
				})
				wantTold(t, told, stay)
			}
		}
	}
}

// Whatever is done between the calls: those that were there all the while are told. A plain list of those that have
// stayed so far goes beside the scan.
func TestP9_9_AtRandom(t *testing.T) {
	r := rand.New(rand.NewPCG(9, 9))
	all := 0
	for range 2000 {
		one := New(r.Uint64())
		stayed := map[string]int{}
		for range r.IntN(200) {
			field := name(r.IntN(200))
			one.Set(field, "x")
			stayed[field] = 1
		}
		calls := r.IntN(40)
		told := round(t, one, r.IntN(10)-1, func(call int) {
			if call >= calls {
				return
			}
			for range r.IntN(60) {
				field := name(r.IntN(400))
				switch r.IntN(4) {
				case 0:
					one.Get(field)
				case 1:
					one.Set(field, strconv.Itoa(call))
				default:
					one.Delete(field)
					delete(stayed, field)
				}
			}
		})
		wantTold(t, told, slices.Collect(maps.Keys(stayed)))
		all += len(stayed)
	}
	if all < 10000 {
		t.Errorf("only %d fields have stayed in all rounds: too few to tell", all)
	}
}

// The numbers below Len sample each field, and each just once.
func TestP9_10_WhoIsSampled(t *testing.T) {
	for _, b := range states(t) {
		sampled := map[string]int{}
		for n := range uint64(b.r.Len()) {
			field, ok := b.r.Sample(n)
			if !ok {
				t.Fatalf("Sample(%d) of %d", n, b.r.Len())
			}
			sampled[field]++
		}
		for _, p := range b.m.pairs() {
			if sampled[p.Field] != 1 {
				t.Errorf("%s was sampled %d times", p.Field, sampled[p.Field])
			}
		}
		hold(t, b.r, b.m)
	}
}
