package flock

import (
	"maps"
	"math"
	"math/rand/v2"
	"slices"
	"strconv"
	"strings"
	"testing"

	"pantry/api"
	"pantry/dict"
	"pantry/scan"
)

var long = strings.Repeat("l", 1048576)

// oddTexts are members of every sort, not in their order.
var oddTexts = []string{"b", "", "a", "\xff", "ab", "\x00", "B", "a\x00", "é", "10", "9", "\x00\x00", "aa", "\xff\xff", "a\r\nb", "\x7f", "\x80", " ", strings.Repeat("a", 300)}

// seeds are some that a flock may be made with.
var seeds = []uint64{0, 1, 2, 77, 1 << 32, 1 << 63, math.MaxUint64}

// changes are calls of every kind that may change a flock which has the member m0.
var changes = []struct {
	name string
	do   func(b both)
}{
	{"Add of a new member", func(b both) { b.add("new") }},
	{"Add of the empty text", func(b both) { b.add("") }},
	{"Add of a member that is there", func(b both) { b.add(name(0)) }},
	{"Add of too long a text", func(b both) { b.add(long + "x") }},
	{"Delete", func(b both) { b.delete(name(0)) }},
	{"Delete of nobody", func(b both) { b.delete("nobody") }},
	{"Has", func(b both) { b.has(name(0)) }},
	{"Has of nobody", func(b both) { b.has("nobody") }},
	{"Add of many", func(b both) { b.fill(0, 150) }},
	{"Delete of all", func(b both) {
		for _, member := range b.m.members() {
			b.delete(member)
		}
	}},
}

// states are flocks that move, that do not, and that have nobody.
func states(t *testing.T) []both {
	t.Helper()
	emptied := filled(t, 3, 20)
	for i := range 20 {
		emptied.delete(name(i))
	}
	onTheWay := growing(t, 9, 32)
	for range 5 {
		onTheWay.has("nobody")
	}
	return []both{newBoth(t, 1), emptied, filled(t, 2, 1), filled(t, 0, 4), filled(t, 5, 30), growing(t, 4, 4),
		growing(t, 6, 32), onTheWay, shrinking(t, 7, 16), shrinking(t, 8, 64)}
}

// of makes a flock, and its set, of a few members.
func of(t *testing.T, seed uint64, members ...string) both {
	t.Helper()
	b := newBoth(t, seed)
	for _, member := range members {
		b.add(member)
	}
	return b
}

func want(t *testing.T, name string, got []string, want ...string) {
	t.Helper()
	if !slices.Equal(got, want) {
		t.Errorf("%s: %s, not %s", name, short(got), short(want))
	}
}

func TestP10_1_NewAndLen(t *testing.T) {
	for _, seed := range seeds {
		f := New(seed)
		if f == nil || f.Len() != 0 || len(f.Members()) != 0 || f.Cost() != 0 {
			t.Fatal("a new flock has members, or is none")
		}
		for i := range 100 {
			f.Add(name(i))
			if f.Len() != i+1 {
				t.Fatalf("Len: %d behind %d new members", f.Len(), i+1)
			}
			f.Add(name(i / 2))
			f.Delete("nobody")
			f.Add(long + "x")
			if f.Len() != i+1 {
				t.Fatalf("Len: %d behind calls that bring and take nobody", f.Len())
			}
		}
		for i := range 100 {
			f.Delete(name(i))
			if f.Len() != 99-i {
				t.Fatalf("Len: %d behind %d members that went", f.Len(), i+1)
			}
		}
	}
}

// The dictionary is one of the seed: it lies as dict.New of the seed does, and otherwise with another one.
func TestP10_1_TheSeed(t *testing.T) {
	var orders [][]string
	for _, seed := range seeds {
		b := filled(t, seed, 40)
		_, members := b.f.Scan(0, 100)
		for _, other := range orders {
			if slices.Equal(members, other) {
				t.Errorf("the seed %d is not seen: %q", seed, members)
			}
		}
		orders = append(orders, members)
	}
}

func TestP10_1_FlocksAreApart(t *testing.T) {
	a, b := newBoth(t, 5), newBoth(t, 5)
	for i := range 40 {
		a.add(name(i))
		b.add(name(-i))
		hold(t, a.f, a.m)
	}
	for i := range 40 {
		b.delete(name(-i))
		hold(t, a.f, a.m)
	}
}

func TestP10_2_Has(t *testing.T) {
	f := New(3)
	for _, member := range oddTexts {
		if f.Has(member) {
			t.Errorf("Has(%q) ahead of Add", member)
		}
		f.Add(member)
		if !f.Has(member) {
			t.Errorf("Has(%q) behind Add", member)
		}
	}
	for _, member := range oddTexts {
		if !f.Has(member) {
			t.Errorf("Has(%q) behind all of them", member)
		}
	}
	for _, member := range []string{"c", "A", "abc", "\x00\x00\x00", "é ", long, long + "x", long + long} {
		if f.Has(member) {
			t.Errorf("Has(%.40q)", member)
		}
	}
	for _, member := range oddTexts {
		f.Delete(member)
		if f.Has(member) {
			t.Errorf("Has(%q) behind Delete", member)
		}
	}
}

// The empty text is a member like others.
func TestP10_3_TheEmptyText(t *testing.T) {
	f := New(0)
	if f.Has("") || f.Delete("") {
		t.Error("it is there from the beginning")
	}
	if fresh, code := f.Add(""); !fresh || code != api.OK {
		t.Errorf("Add: %v %d", fresh, code)
	}
	if fresh, code := f.Add(""); fresh || code != api.OK {
		t.Errorf("Add once more: %v %d", fresh, code)
	}
	if !f.Has("") || f.Len() != 1 || f.Cost() != 24 {
		t.Error(f.Has(""), f.Len(), f.Cost())
	}
	want(t, "Members", f.Members(), "")
	if s, ok := f.Sample(9); s != "" || !ok {
		t.Errorf("Sample: %q %v", s, ok)
	}
	if _, l := f.Scan(0, 10); len(l) != 1 || l[0] != "" {
		t.Errorf("Scan: %q", l)
	}
	want(t, "Union", Union(f, nil), "")
	want(t, "Inter", Inter(f, f), "")
	want(t, "Diff", Diff(f, nil), "")
	want(t, "Diff", Diff(f, f))
	if !f.Delete("") || f.Len() != 0 {
		t.Error("Delete")
	}
}

// shown is what each cursor of a table of 32 buckets tells.
func shown(next func(cursor uint64, count int) (uint64, []string)) string {
	var b strings.Builder
	for c := range uint64(32) {
		behind, members := next(c, 1)
		b.WriteString(strconv.FormatUint(behind, 10) + " " + strings.Join(members, " ") + "\n")
	}
	return b.String()
}

// stepped is what the dictionary of a flock that has just begun to grow shows behind 0, 1, 2 and 3 steps, all of it
// different; false, if two of these look alike with that seed.
func stepped(t *testing.T, seed uint64) ([]string, bool) {
	t.Helper()
	m := growing(t, seed, 16).m
	var l []string
	for range 4 {
		now := shown(func(c uint64, count int) (uint64, []string) { return scan.Next(m.lies, c, count) })
		if slices.Contains(l, now) {
			return nil, false
		}
		l = append(l, now)
		m.lies.Get("nobody")
	}
	return l, true
}

// Whoever does a step of the dictionary moves the first chain that was not moved, and Scan shows it.
func TestP10_6_WhoDoesAStep(t *testing.T) {
	tried := 0
	for seed := uint64(0); tried < 5; seed++ {
		behind, apart := stepped(t, seed)
		if !apart {
			continue
		}
		tried++
		other := filled(t, 3, 5).f
		for _, row := range []struct {
			name string
			want int
			call func(f *Flock)
		}{
			{"Has", 1, func(f *Flock) { f.Has(name(0)) }},
			{"Has of nobody", 1, func(f *Flock) { f.Has("nobody") }},
			{"Has of too long a text", 1, func(f *Flock) { f.Has(long + "x") }},
			{"Add of a member that is there", 1, func(f *Flock) { f.Add(name(0)) }},
			{"Add of another one that is there", 1, func(f *Flock) { f.Add(name(16)) }},
			{"Add of too long a text", 0, func(f *Flock) { f.Add(long + "x") }},
			{"Delete of nobody", 1, func(f *Flock) { f.Delete("nobody") }},
			{"Delete of too long a text", 1, func(f *Flock) { f.Delete(long + "x") }},
			{"Len", 0, func(f *Flock) { f.Len() }},
			{"Members", 0, func(f *Flock) { f.Members() }},
			{"Sample", 0, func(f *Flock) { f.Sample(3) }},
			{"Scan", 0, func(f *Flock) { f.Scan(0, 1) }},
			{"Scan of all", 0, func(f *Flock) { f.Scan(0, 1000) }},
			{"Cost", 0, func(f *Flock) { f.Cost() }},
			{"Copy", 0, func(f *Flock) { f.Copy() }},
			{"Union", 0, func(f *Flock) { Union(f, other, f); Union(other, f) }},
			{"Union of it alone", 0, func(f *Flock) { Union(f) }},
			{"Inter, first", 0, func(f *Flock) { Inter(f, other, f) }},
			{"Inter, later", 0, func(f *Flock) { Inter(other, f) }},
			{"Inter with none", 0, func(f *Flock) { Inter(f, nil); Inter(nil, f) }},
			{"Diff, first", 0, func(f *Flock) { Diff(f, other, f) }},
			{"Diff, later", 0, func(f *Flock) { Diff(other, f) }},
			{"Diff with none", 0, func(f *Flock) { Diff(f, nil); Diff(nil, f) }},
		} {
			f := growing(t, seed, 16).f
			row.call(f)
			if got := slices.Index(behind, shown(f.Scan)); got != row.want {
				t.Errorf("%s (seed %d): %d steps, not %d", row.name, seed, got, row.want)
			}
		}
	}
}

// A member that is new goes to its place behind two steps, and one that is deleted is taken out behind two.
func TestP10_6_StepsOfAddAndDelete(t *testing.T) {
	for seed := range uint64(6) {
		for _, more := range []bool{true, false} {
			b := growing(t, seed, 32)
			for i := 0; b.m.moving(); i++ {
				_, _, before := b.m.lies.Sizes()
				if more {
					b.add("more" + strconv.Itoa(i))
				} else {
					b.delete(name(i))
				}
				if _, _, at := b.m.lies.Sizes(); b.m.moving() && at < before+2 {
					t.Fatalf("the model went from %d to %d alone", before, at)
				}
			}
		}
	}
}

func TestP10_3_ChapterExamples(t *testing.T) {
	f := New(0)
	for _, row := range []struct {
		member string
		fresh  bool
	}{{"b", true}, {"a", true}, {"b", false}} {
		if fresh, code := f.Add(row.member); fresh != row.fresh || code != api.OK {
			t.Errorf("Add(%s): %v %d", row.member, fresh, code)
		}
	}
	want(t, "Members", f.Members(), "a", "b")
	if f.Len() != 2 || f.Cost() != 50 {
		t.Error(f.Len(), f.Cost())
	}
	if a, ok := f.Sample(0); a != "a" || !ok {
		t.Errorf("Sample(0): %q %v", a, ok)
	}
	if b, ok := f.Sample(5); b != "b" || !ok {
		t.Errorf("Sample(5): %q %v", b, ok)
	}
	if !f.Delete("a") || f.Delete("a") || f.Cost() != 25 {
		t.Errorf("Delete(a), once and again; Cost: %d", f.Cost())
	}
	if fresh, code := f.Add(strings.Repeat("x", 1048577)); fresh || code != api.ErrLong {
		t.Errorf("Add of a text of 1048577 bytes: %v %d", fresh, code)
	}
	want(t, "Members", f.Members(), "b")
}

func TestP10_3_LongTexts(t *testing.T) {
	for _, b := range states(t) {
		for _, member := range []string{long + "x", long + long} {
			if fresh, code := b.f.Add(member); fresh || code != api.ErrLong {
				t.Errorf("Add of %d bytes: %v %d", len(member), fresh, code)
			}
			hold(t, b.f, b.m)
		}
		if fresh, code := b.f.Add(long); !fresh || code != api.OK {
			t.Errorf("Add of %d bytes: %v %d", len(long), fresh, code)
		}
		b.m.add(long)
		hold(t, b.f, b.m)
		b.add(long)
		b.add(long + "x")
		if got := b.f.Cost(); got < 24+1048576 {
			t.Errorf("Cost: %d", got)
		}
		b.delete(long + "x")
		b.delete(long)
	}
}

// A new member is told as new once, and again when it was away.
func TestP10_3_WhatIsNew(t *testing.T) {
	f := New(8)
	for range 3 {
		for _, member := range oddTexts {
			for _, fresh := range []bool{true, false, false} {
				if got, code := f.Add(member); got != fresh || code != api.OK {
					t.Errorf("Add(%q): %v %d, not %v", member, got, code, fresh)
				}
			}
		}
		for _, member := range oddTexts {
			if !f.Delete(member) || f.Delete(member) {
				t.Errorf("Delete(%q), once and again", member)
			}
		}
	}
}

// allOf makes a flock with as many members as may be, 0 and 1 and so on.
func allOf(t *testing.T) (f *Flock, cost int64) {
	t.Helper()
	f = New(9)
	for i := range 1048576 {
		member := strconv.Itoa(i)
		if fresh, code := f.Add(member); !fresh || code != api.OK {
			t.Fatalf("Add of the member %d: %v %d", i, fresh, code)
		}
		cost += 24 + int64(len(member))
	}
	return f, cost
}

// look is what is seen of a great flock: Members takes too long to be asked each time.
func look(f *Flock) (cursor uint64, members []string, length int, cost int64) {
	cursor, members = f.Scan(0, 1000)
	return cursor, members, f.Len(), f.Cost()
}

func TestP10_3_AsManyAsMayBe(t *testing.T) {
	f, cost := allOf(t)
	cursor, members, length, is := look(f)
	if length != 1048576 || is != cost {
		t.Fatalf("%d members that cost %d, not %d", length, is, cost)
	}
	for _, row := range []struct {
		member string
		code   api.Errno
	}{
		{"more", api.ErrFull}, {"", api.ErrFull}, {"1048576", api.ErrFull}, {long, api.ErrFull},
		{long + "x", api.ErrLong}, {"7", api.OK}, {"1048575", api.OK}, {"0", api.OK},
	} {
		if fresh, code := f.Add(row.member); fresh || code != row.code {
			t.Errorf("Add(%.20q) at all members: %v %d, not %d", row.member, fresh, code, row.code)
		}
		if got := f.Has(row.member); got != (row.code == api.OK) {
			t.Errorf("%.20q: %v", row.member, got)
		}
		if c, l, n, x := look(f); c != cursor || !slices.Equal(l, members) || n != length || x != cost {
			t.Fatalf("Add(%.20q) changed something", row.member)
		}
	}
	f.Delete("8")
	if fresh, code := f.Add("more"); !fresh || code != api.OK || f.Len() != length || f.Cost() != cost-25+28 {
		t.Errorf("Add where there is room again: %v %d, Cost %d", fresh, code, f.Cost())
	}
	if fresh, code := f.Add("8"); fresh || code != api.ErrFull {
		t.Errorf("Add at all members once more: %v %d", fresh, code)
	}
	wholeFlock(t, f)
}

// wholeFlock asks the calls that go through all members, where there are as many as may be.
func wholeFlock(t *testing.T, f *Flock) {
	t.Helper()
	members := f.Members()
	if len(members) != 1048576 || !slices.IsSorted(members) || costOfMembers(members) != f.Cost() {
		t.Errorf("%d members, that cost %d, not %d", len(members), costOfMembers(members), f.Cost())
	}
	if last, ok := f.Sample(math.MaxUint64); last != members[1048575] || !ok { // 2^64 - 1 mod 2^20
		t.Errorf("Sample: %q %v", last, ok)
	}
	c := f.Copy()
	if c.Len() != f.Len() || c.Cost() != f.Cost() || !slices.Equal(c.Members(), members) {
		t.Errorf("the copy has %d members that cost %d", c.Len(), c.Cost())
	}
	if fresh, code := c.Add("yet another"); fresh || code != api.ErrFull {
		t.Errorf("Add to the copy: %v %d", fresh, code)
	}
	few := of(t, 1, "no such one", "7").f
	if got := Union(f, few); len(got) != 1048577 || !slices.IsSorted(got) { // there is no bound on what is told
		t.Errorf("Union: %d", len(got))
	}
	if got := Inter(f, c); !slices.Equal(got, members) {
		t.Errorf("Inter: %d", len(got))
	}
	want(t, "Inter", Inter(few, f), "7")
	want(t, "Diff", Diff(few, f), "no such one")
	want(t, "Diff", Diff(f, c))
}

func TestP10_4_EveryMember(t *testing.T) {
	for _, b := range states(t) {
		b.delete("nobody")
		b.delete("")
		b.delete(long + "x")
		for _, member := range b.m.members() {
			b.delete(member)
			b.delete(member)
		}
		if b.f.Len() != 0 || b.f.Cost() != 0 {
			t.Errorf("%d are left, that cost %d", b.f.Len(), b.f.Cost())
		}
		b.add(name(0))
	}
}

func TestP10_5_MembersRise(t *testing.T) {
	rising := []string{"", "\x00", "\x00\x00", " ", "10", "9", "B", "a", "a\x00", "a\r\nb", "aa", strings.Repeat("a", 300), "ab", "b", "\x7f", "\x80", "é", "\xff", "\xff\xff"}
	if len(rising) != len(oddTexts) {
		t.Fatal("not the same texts")
	}
	for _, seed := range seeds {
		f := New(seed)
		for _, member := range oddTexts {
			f.Add(member)
		}
		want(t, "Members", f.Members(), rising...)
		want(t, "Union", Union(f), rising...)
		want(t, "Inter", Inter(f), rising...)
		want(t, "Diff", Diff(f), rising...)
		for i, member := range rising {
			if got, ok := f.Sample(uint64(i)); got != member || !ok {
				t.Errorf("Sample(%d): %q %v, not %q", i, got, ok, member)
			}
		}
	}
}

// tellers are the calls that tell members in a list.
var tellers = []struct {
	name string
	tell func(f *Flock) []string
}{
	{"Members", func(f *Flock) []string { return f.Members() }},
	{"Scan of one", func(f *Flock) []string { _, l := f.Scan(0, 1); return l }},
	{"Scan of all", func(f *Flock) []string { _, l := f.Scan(0, 1000); return l }},
	{"Union", func(f *Flock) []string { return Union(f) }},
	{"Union with itself", func(f *Flock) []string { return Union(f, f) }},
	{"Inter", func(f *Flock) []string { return Inter(f) }},
	{"Inter with itself", func(f *Flock) []string { return Inter(f, f) }},
	{"Diff", func(f *Flock) []string { return Diff(f) }},
	{"Diff with none", func(f *Flock) []string { return Diff(f, nil) }},
}

func TestP10_5_ToldInMemoryOfItsOwn(t *testing.T) {
	for _, row := range tellers {
		for _, b := range states(t) {
			first, second := row.tell(b.f), row.tell(b.f)
			stood := slices.Clone(first)
			for i := range first {
				first[i] = "written over"
			}
			_ = append(first, "behind", "it")
			if !slices.Equal(second, stood) {
				t.Errorf("%s: what was told before shows what was written: %s", row.name, short(second))
			}
			if third := row.tell(b.f); !slices.Equal(third, stood) {
				t.Errorf("%s: what is told later shows what was written: %s", row.name, short(third))
			}
			hold(t, b.f, b.m)
			b.add("new")
			b.delete(name(0))
			b.delete(name(1))
			if !slices.Equal(second, stood) {
				t.Errorf("%s: what was told before shows what was changed later: %s", row.name, short(second))
			}
		}
	}
}

func TestP10_5_Sample(t *testing.T) {
	for n := 1; n <= 70; n++ {
		b := filled(t, uint64(n), n)
		members := b.m.members()
		for i := range uint64(3*n + 2) {
			holdSample(t, b.f, members, i)
		}
		for _, x := range []uint64{1 << 31, 1<<32 - 1, 1 << 32, 1 << 62, 1<<63 - 1, 1 << 63, math.MaxUint64 - 1, math.MaxUint64} {
			holdSample(t, b.f, members, x)
		}
		if first, ok := b.f.Sample(uint64(n)); first != members[0] || !ok {
			t.Errorf("Sample(Len): %q %v", first, ok)
		}
	}
	b := filled(t, 1, 10)
	if got, _ := b.f.Sample(math.MaxUint64); got != "m5" { // 18446744073709551615 mod 10
		t.Errorf("Sample of the greatest number: %q", got)
	}
}

// The numbers below Len sample each member, and each just once.
func TestP10_5_WhoIsSampled(t *testing.T) {
	for _, b := range states(t) {
		sampled := map[string]int{}
		for n := range uint64(b.f.Len()) {
			member, ok := b.f.Sample(n)
			if !ok {
				t.Fatalf("Sample(%d) of %d", n, b.f.Len())
			}
			sampled[member]++
		}
		for _, member := range b.m.members() {
			if sampled[member] != 1 {
				t.Errorf("%s was sampled %d times", member, sampled[member])
			}
		}
		hold(t, b.f, b.m)
	}
}

func TestP10_5_NobodyToSample(t *testing.T) {
	emptied := filled(t, 4, 9)
	for i := range 9 {
		emptied.delete(name(i))
	}
	for _, f := range []*Flock{nil, New(0), emptied.f, New(3).Copy()} {
		for _, n := range []uint64{0, 1, 5, 7, 1 << 63, math.MaxUint64} {
			if got, ok := f.Sample(n); got != "" || ok {
				t.Errorf("Sample(%d) of nobody: %q %v", n, got, ok)
			}
		}
	}
}

func TestP10_5_Cost(t *testing.T) {
	f := New(6)
	for _, row := range []struct {
		name string
		do   func()
		want int64
	}{
		{"new", func() {}, 0},
		{"the empty text", func() { f.Add("") }, 24},
		{"once more", func() { f.Add("") }, 24},
		{"a member", func() { f.Add("abc") }, 51},
		{"once more", func() { f.Add("abc") }, 51},
		{"too long a text", func() { f.Add(long + "x") }, 51},
		{"bytes, not letters", func() { f.Add("é€") }, 80},
		{"as long as may be", func() { f.Add(long) }, 104 + 1048576},
		{"it goes", func() { f.Delete(long) }, 80},
		{"nobody goes", func() { f.Delete("nobody") }, 80},
		{"asked for", func() { f.Has("abc"); f.Has("nobody") }, 80},
		{"the first goes", func() { f.Delete("") }, 56},
		{"the next goes", func() { f.Delete("abc") }, 29},
		{"the last goes", func() { f.Delete("é€") }, 0},
		{"there is none any more", func() { f.Delete("é€") }, 0},
	} {
		row.do()
		if f.Cost() != row.want || f.Copy().Cost() != row.want || costOfMembers(f.Members()) != row.want {
			t.Errorf("%s: %d, of the copy %d, not %d", row.name, f.Cost(), f.Copy().Cost(), row.want)
		}
	}
}

func TestP10_6_ChapterExamples(t *testing.T) {
	f := New(0)
	if s, ok := f.Sample(7); s != "" || ok {
		t.Errorf("Sample: %q %v", s, ok)
	}
	if c, l := f.Scan(3, 10); c != 0 || len(l) != 0 {
		t.Errorf("Scan: %d %q", c, l)
	}
}

func TestP10_6_EveryCursorAndCount(t *testing.T) {
	for _, b := range states(t) {
		old, young, _ := b.m.lies.Sizes()
		most := uint64(max(old, young, 1))
		for c := range most {
			for _, high := range []uint64{0, most, -most, 1 << 63} {
				for _, count := range []int{math.MinInt, -1, 0, 1, 2, 3, b.f.Len(), b.f.Len() + 1, math.MaxInt} {
					holdNext(t, b.f, b.m, c+high, count)
				}
			}
		}
		hold(t, b.f, b.m)
	}
}

// The order is that of the chains: a member of a small table stands ahead of those that came before it.
func TestP10_6_ChainsOrder(t *testing.T) {
	for seed := range uint64(5) {
		f, d := New(seed), dict.New[int](seed)
		for i := range 4 {
			f.Add(name(i))
			d.Set(name(i), i)
		}
		for c := range uint64(4) {
			if _, members := f.Scan(c, 1); len(d.Bucket(0, int(c))) > 0 && !slices.Equal(members, d.Bucket(0, int(c))) {
				t.Errorf("the bucket %d: %q, not %q", c, members, d.Bucket(0, int(c)))
			}
		}
	}
}

// The copy lies as a flock to which the members were added in their order, whatever was done to the other one.
func TestP10_7_Copy(t *testing.T) {
	differ := false
	for _, b := range states(t) {
		c := b.copy()
		hold(t, c.f, c.m)
		hold(t, b.f, b.m)
		plain := New(b.m.seed)
		for _, member := range b.f.Members() {
			plain.Add(member)
		}
		hold(t, plain, c.m)
		_, here := b.f.Scan(0, 1000)
		_, there := c.f.Scan(0, 1000)
		differ = differ || !slices.Equal(here, there)
	}
	if !differ {
		t.Error("no copy lies otherwise than what it was made of: nothing is told by that")
	}
}

func TestP10_7_CopyIsApart(t *testing.T) {
	for i := range states(t) {
		for _, c := range changes {
			b := states(t)[i]
			other := b.copy()
			c.do(b)
			hold(t, other.f, other.m)
			third := other.copy()
			c.do(other)
			hold(t, b.f, b.m)
			hold(t, third.f, third.m)
		}
	}
}

// The copy of a copy, and what is added to it, still lies by the first one's seed.
func TestP10_7_TheSeedGoesOn(t *testing.T) {
	for _, seed := range seeds {
		b := newBoth(t, seed).copy().copy()
		b.fill(0, 50)
		b = b.copy()
		b.fill(50, 100)
	}
}

func TestP10_7_CopyOfNoFlock(t *testing.T) {
	var none *Flock
	a, b := none.Copy(), none.Copy()
	if a == nil || b == nil || a == b {
		t.Fatal("the copy of no flock is no flock, or one for all")
	}
	c := both{t, a, newSpelled(0)}
	hold(t, c.f, c.m)
	c.fill(0, 60)
	if b.Len() != 0 {
		t.Error("one is seen in the other")
	}
}

// What is asked of no flock, and what it is told: R1.
func TestP10_8_NoFlock(t *testing.T) {
	var f *Flock
	for _, member := range []string{"", "a", long, long + "x"} {
		if f.Has(member) || f.Delete(member) {
			t.Error("Has or Delete")
		}
		if fresh, code := f.Add(member); fresh || code != api.ErrNil {
			t.Errorf("Add: %v %d", fresh, code)
		}
	}
	for _, n := range []uint64{0, 1, 77, 1 << 63, math.MaxUint64} {
		if s, ok := f.Sample(n); s != "" || ok {
			t.Errorf("Sample(%d): %q %v", n, s, ok)
		}
		for _, count := range []int{math.MinInt, -1, 0, 1, 10, math.MaxInt} {
			if c, l := f.Scan(n, count); c != 0 || len(l) != 0 {
				t.Errorf("Scan(%d, %d): %d %q", n, count, c, l)
			}
		}
	}
	if f.Len() != 0 || f.Cost() != 0 || len(f.Members()) != 0 {
		t.Error(f.Len(), f.Cost(), f.Members())
	}
}

func TestP10_8_ChapterExamples(t *testing.T) {
	abc, bcd, c := of(t, 1, "a", "b", "c").f, of(t, 2, "b", "c", "d").f, of(t, 3, "c").f
	want(t, "Union", Union(abc, bcd, c), "a", "b", "c", "d")
	want(t, "Inter", Inter(abc, bcd, c), "c")
	want(t, "Diff", Diff(abc, bcd, c), "a")
	want(t, "Diff of the second", Diff(bcd, abc, c), "d")
	want(t, "Union of none", Union())
	a := of(t, 4, "a").f
	want(t, "Inter with no flock", Inter(a, nil))
	want(t, "Diff with no flock", Diff(a, nil), "a")
}

// No flocks at all, no flock first, later and alone, and flocks without members.
func TestP10_8_NoneAmongThem(t *testing.T) {
	var none []*Flock
	empty, ab, b := New(1), of(t, 2, "a", "b").f, of(t, 3, "b").f
	for _, row := range []struct {
		name               string
		l                  []*Flock
		union, inter, diff []string
	}{
		{"nothing", none, nil, nil, nil},
		{"an empty list", []*Flock{}, nil, nil, nil},
		{"none", []*Flock{nil}, nil, nil, nil},
		{"none twice", []*Flock{nil, nil}, nil, nil, nil},
		{"one without members", []*Flock{empty}, nil, nil, nil},
		{"one and none", []*Flock{ab, nil}, []string{"a", "b"}, nil, []string{"a", "b"}},
		{"none and one", []*Flock{nil, ab}, []string{"a", "b"}, nil, nil},
		{"one and an empty one", []*Flock{ab, empty}, []string{"a", "b"}, nil, []string{"a", "b"}},
		{"an empty one and one", []*Flock{empty, ab}, []string{"a", "b"}, nil, nil},
		{"none between", []*Flock{ab, nil, b}, []string{"a", "b"}, nil, []string{"a"}},
		{"none behind", []*Flock{ab, b, nil}, []string{"a", "b"}, nil, []string{"a"}},
		{"none ahead", []*Flock{nil, ab, b}, []string{"a", "b"}, nil, nil},
		{"none among the later ones twice", []*Flock{ab, nil, nil}, []string{"a", "b"}, nil, []string{"a", "b"}},
		{"no none", []*Flock{ab, b}, []string{"a", "b"}, []string{"b"}, []string{"a"}},
		{"the smaller one first", []*Flock{b, ab}, []string{"a", "b"}, []string{"b"}, nil},
		{"one alone", []*Flock{ab}, []string{"a", "b"}, []string{"a", "b"}, []string{"a", "b"}},
	} {
		want(t, "Union: "+row.name, Union(row.l...), row.union...)
		want(t, "Inter: "+row.name, Inter(row.l...), row.inter...)
		want(t, "Diff: "+row.name, Diff(row.l...), row.diff...)
	}
}

// The list that is handed in, with the room behind its end, is not changed.
func TestP10_8_WhatIsHandedIn(t *testing.T) {
	ab, b := of(t, 2, "a", "b").f, of(t, 3, "b").f
	room := []*Flock{ab, b, nil, ab, b}
	for _, call := range []func(l ...*Flock) []string{Union, Inter, Diff} {
		call(room[:2:4]...)
		call(room[:0]...)
		if !slices.Equal(room, []*Flock{ab, b, nil, ab, b}) {
			t.Error("it was changed")
		}
	}
}

// The same flock comes several times: it counts as often as it comes, and nobody is told twice.
func TestP10_10_TheSameTwice(t *testing.T) {
	for _, b := range states(t) {
		members := b.m.members()
		want(t, "Union", Union(b.f, b.f), members...)
		want(t, "Inter", Inter(b.f, b.f), members...)
		want(t, "Inter, four times", Inter(b.f, b.f, b.f, b.f), members...)
		want(t, "Diff", Diff(b.f, b.f))
		want(t, "Union with its copy", Union(b.f, b.f.Copy()), members...)
		want(t, "Diff with its copy", Diff(b.f.Copy(), b.f))
		few := of(t, 4, "m0", "x")
		holdSets(t, few, few, b)
		holdSets(t, few, b, b)
		holdSets(t, b, few, few)
		holdSets(t, b, few, b, few)
	}
}

// Every flock beside every other one, in both orders, moving ones too: nothing is seen of these calls in any of them.
func TestP10_10_EveryPair(t *testing.T) {
	l := append(states(t), both{t: t}, of(t, 11, oddTexts...), of(t, 12, "m3", "m30", "", "x"))
	for _, a := range l {
		holdSets(t, a)
		for _, b := range l {
			holdSets(t, a, b)
		}
	}
}

// Every choice of who of four is in which of three flocks.
func TestP10_10_EverySmallChoice(t *testing.T) {
	texts := []string{"", "a", "ab", "\xff"}
	var flocks []both
	for choice := range 16 {
		b := newBoth(t, uint64(choice))
		for i, s := range texts {
			if choice>>i&1 == 1 {
				b.add(s)
			}
		}
		flocks = append(flocks, b)
	}
	flocks = append(flocks, both{t: t})
	for _, a := range flocks {
		for _, b := range flocks {
			for _, c := range flocks {
				holdSets(t, a, b, c)
			}
		}
	}
}

// The order of the flocks is nothing, but for Diff's first one.
func TestP10_10_TheOrderIsNothing(t *testing.T) {
	r := rand.New(rand.NewPCG(10, 10))
	for range 100 {
		l := anyFlocks(t, r)
		holdSets(t, l...)
		if len(l) == 0 {
			continue
		}
		var flocks []*Flock
		for _, b := range l {
			flocks = append(flocks, b.f)
		}
		union, inter, diff := Union(flocks...), Inter(flocks...), Diff(flocks...)
		later := flocks[1:]
		r.Shuffle(len(later), func(i, j int) { later[i], later[j] = later[j], later[i] })
		want(t, "Diff, the others in another order", Diff(flocks...), diff...)
		r.Shuffle(len(flocks), func(i, j int) { flocks[i], flocks[j] = flocks[j], flocks[i] })
		want(t, "Union, in another order", Union(flocks...), union...)
		want(t, "Inter, in another order", Inter(flocks...), inter...)
	}
}

// anyFlocks are some at random, of few texts, so that many are in several of them; at times none, or one twice.
func anyFlocks(t *testing.T, r *rand.Rand) []both {
	t.Helper()
	var l []both
	for range r.IntN(7) {
		switch x := r.IntN(12); {
		case x == 0:
			l = append(l, both{t: t})
			continue
		case x == 1 && len(l) > 0:
			l = append(l, l[r.IntN(len(l))])
			continue
		}
		b := newBoth(t, r.Uint64())
		many := 1 + r.IntN(60)
		for range r.IntN(200) {
			member := name(r.IntN(many))
			if r.IntN(4) == 0 {
				b.f.Delete(member)
				b.m.delete(member)
			} else {
				b.f.Add(member)
				b.m.add(member)
			}
		}
		hold(t, b.f, b.m)
		l = append(l, b)
	}
	return l
}

// A text is in what is told just as Has of each flock says.
func TestP10_10_AsHasSays(t *testing.T) {
	r := rand.New(rand.NewPCG(10, 11))
	for range 100 {
		l := anyFlocks(t, r)
		var flocks []*Flock
		for _, b := range l {
			flocks = append(flocks, b.f)
		}
		union, inter, diff := Union(flocks...), Inter(flocks...), Diff(flocks...)
		for i := range 70 {
			in := 0
			for _, f := range flocks {
				if f.Has(name(i)) {
					in++
				}
			}
			first := len(flocks) > 0 && flocks[0].Has(name(i))
			for _, row := range []struct {
				name string
				l    []string
				want bool
			}{
				{"Union", union, in > 0}, {"Inter", inter, in > 0 && in == len(flocks)}, {"Diff", diff, first && in == 1},
			} {
				if got := slices.Contains(row.l, name(i)); got != row.want {
					t.Fatalf("%s of %d: %s: %v, not %v", row.name, len(flocks), name(i), got, row.want)
				}
			}
		}
	}
}

// More flocks at once than a command has words.
func TestP10_10_ManyFlocks(t *testing.T) {
	var l []both
	for i := range 1100 {
		l = append(l, of(t, uint64(i), "all", name(i%50)))
	}
	holdSets(t, l...)
	holdSets(t, l[1000:]...)
	var flocks []*Flock
	for _, b := range l {
		flocks = append(flocks, b.f)
	}
	want(t, "Inter", Inter(flocks...), "all")
	flocks[1099].Delete("all")
	want(t, "Inter, but for the last one", Inter(flocks...))
}

// The same is done to flocks of many seeds: nothing but Scan tells them apart.
func TestP10_9_WhateverTheSeed(t *testing.T) {
	for round := range uint64(20) {
		var flocks []*Flock
		for _, seed := range seeds {
			flocks = append(flocks, New(seed))
		}
		r := rand.New(rand.NewPCG(8, round))
		for range 300 {
			member, n, what := anyMember(r, 40), r.Uint64(), r.IntN(5)
			first := answer(flocks[0], what, member, n)
			for i, one := range flocks[1:] {
				if got := answer(one, what, member, n); got != first {
					t.Fatalf("seeds %d and %d, call %d: %.200s, not %.200s", seeds[i+1], seeds[0], what, got, first)
				}
			}
		}
	}
}

// answer does one call, and tells all that comes of it and all that is there then.
func answer(f *Flock, what int, member string, n uint64) string {
	var told string
	var ok bool
	code := api.OK
	switch what {
	case 0, 1:
		ok, code = f.Add(member)
	case 2:
		ok = f.Delete(member)
	case 3:
		ok = f.Has(member)
	case 4:
		told, ok = f.Sample(n)
	}
	if f.Cost() != costOfMembers(f.Members()) {
		return "the cost is not that of Members"
	}
	return strings.Join([]string{strconv.Quote(told), strconv.FormatBool(ok), strconv.Itoa(int(code)), strconv.Itoa(f.Len()),
		strconv.FormatInt(f.Cost(), 10), strings.Join(f.Members(), " ")}, " ")
}

// round scans from 0 to 0, and tells how often each member was told.
func round(t *testing.T, f *Flock, count int, between func(call int)) map[string]int {
	t.Helper()
	told := map[string]int{}
	cursor := uint64(0)
	for call := 1; call < 1<<20; call++ {
		next, members := f.Scan(cursor, count)
		for _, member := range members {
			told[member]++
		}
		if next == 0 {
			return told
		}
		cursor = next
		between(call)
	}
	t.Fatal("the scan does not end")
	return nil
}

func wantTold(t *testing.T, told map[string]int, stayed []string) {
	t.Helper()
	for _, member := range stayed {
		if told[member] == 0 {
			t.Fatalf("%.40q was missed", member)
		}
	}
}

func TestP10_11_NothingIsChangedMeanwhile(t *testing.T) {
	for _, b := range states(t) {
		for _, count := range []int{-1, 0, 1, 2, 10, 1000} {
			told := round(t, b.f, count, func(int) {})
			if len(told) != b.f.Len() {
				t.Errorf("%d members told of %d", len(told), b.f.Len())
			}
			for _, member := range b.f.Members() {
				if told[member] != 1 {
					t.Errorf("%s was told %d times", member, told[member])
				}
			}
		}
	}
}

// Some members come, or go, with each call of a round, and those that stay are added once more.
func TestP10_11_ItGrowsAndShrinksMeanwhile(t *testing.T) {
	for _, many := range []int{1, 2, 5, 17, 60} {
		for _, first := range []int{0, 600} {
			for seed := range uint64(6) {
				f := New(seed)
				var stay []string
				for i := range 20 {
					stay = append(stay, "stays"+strconv.Itoa(i))
					f.Add(stay[i])
				}
				for i := range first {
					f.Add(name(i))
				}
				gone, come := 0, first
				told := round(t, f, 1, func(call int) {
					f.Add(stay[call%20])
					for range many {
						if first > 0 {
							f.Delete(name(gone))
							gone++
						} else if come++; come < 2000 {
							f.Add(name(come))
						}
					}
				})
				wantTold(t, told, stay)
			}
		}
	}
}

// Whatever is done between the calls: those that were there all the while are told. A plain list of those that have
// stayed so far goes beside the scan.
func TestP10_11_AtRandom(t *testing.T) {
	r := rand.New(rand.NewPCG(11, 11))
	all := 0
	for range 2000 {
		one := New(r.Uint64())
		stayed := map[string]int{}
		for range r.IntN(200) {
			member := name(r.IntN(200))
			one.Add(member)
			stayed[member] = 1
		}
		calls := r.IntN(40)
		told := round(t, one, r.IntN(10)-1, func(call int) {
			if call >= calls {
				return
			}
			for range r.IntN(60) {
				member := name(r.IntN(400))
				switch r.IntN(4) {
				case 0:
					one.Has(member)
				case 1:
					one.Add(member)
				default:
					one.Delete(member)
					delete(stayed, member)
				}
			}
		})
		wantTold(t, told, slices.Collect(maps.Keys(stayed)))
		all += len(stayed)
	}
	if all < 10000 {
		t.Errorf("only %d members have stayed in all rounds: too few to tell", all)
	}
}
