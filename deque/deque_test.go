package deque

import (
	"math"
	"runtime"
	"slices"
	"strings"
	"testing"
	"unsafe"
	"weak"

	"pantry/api"
)

var long = strings.Repeat("l", 1048576)

// farOff are numbers that no deque has a place for.
var farOff = []int{math.MinInt, math.MinInt + 1, -1 << 32, -33, -2, -1, 1 << 20, 1 << 32, math.MaxInt - 1, math.MaxInt}

// changes are calls of every kind that change a deque which has at least three texts.
var changes = []struct {
	name string
	do   func(b both)
}{
	{"Push ahead", func(b both) { b.push(true, "x") }},
	{"Push behind", func(b both) { b.push(false, "x") }},
	{"Pop the first", func(b both) { b.pop(true) }},
	{"Pop the last", func(b both) { b.pop(false) }},
	{"Set the first", func(b both) { b.set(0, "another") }},
	{"Set in the midst", func(b both) { b.set(b.d.Len()/2, "another") }},
	{"Set the last", func(b both) { b.set(b.d.Len()-1, "another") }},
	{"Insert at 0", func(b both) { b.insert(0, "x") }},
	{"Insert in the midst", func(b both) { b.insert(b.d.Len()/2, "x") }},
	{"Insert at Len", func(b both) { b.insert(b.d.Len(), "x") }},
	{"Remove the first", func(b both) { b.remove(0) }},
	{"Remove in the midst", func(b both) { b.remove(b.d.Len() / 2) }},
	{"Remove the last", func(b both) { b.remove(b.d.Len() - 1) }},
	{"Trim", func(b both) { b.trim(1, b.d.Len()-1) }},
	{"Trim all", func(b both) { b.trim(0, 0) }},
}

// shapes are chunks of every sort: full, nearly full, with one text, in the midst and at the ends.
var shapes = [][]int{{}, {1}, {2}, {31}, {32}, {1, 1}, {32, 1}, {1, 32}, {32, 32}, {31, 31}, {1, 32, 1}, {32, 1, 32}, {1, 1, 1}, {32, 32, 32}, {5, 1, 32, 31, 2}}

func TestP7_1_NewAndLen(t *testing.T) {
	d := New()
	if d == nil || d.Len() != 0 || len(d.Chunks()) != 0 || d.Cost() != 0 || len(texts(t, d)) != 0 {
		t.Fatal("a new deque has texts, or is none")
	}
	for i := range 100 {
		d.Push(i%3 == 0, "s")
		if d.Len() != i+1 {
			t.Fatalf("%d behind %d calls of Push", d.Len(), i+1)
		}
	}
	for i := range 50 {
		d.Set(i, "other")
		d.Insert(2*i, "s")
		d.Remove(i)
		if d.Len() != 100 {
			t.Fatalf("%d behind as many that came as that went", d.Len())
		}
	}
	for i := range 100 {
		d.Pop(i%3 == 0)
		if d.Len() != 99-i {
			t.Fatalf("%d behind %d calls of Pop", d.Len(), i+1)
		}
	}
}

func TestP7_1_DequesAreApart(t *testing.T) {
	a, b := newBoth(t), newBoth(t)
	for i := range 70 {
		a.push(i%2 == 0, name(i))
		b.push(i%3 == 0, name(-i))
		hold(t, a.d, a.m)
	}
	b.trim(0, 0)
	hold(t, a.d, a.m)
}

func TestP7_2_ChapterExamples(t *testing.T) {
	b := filled(t, 33)
	b.chunks(32, 1)
	b.push(true, "x")
	b.chunks(1, 32, 1)
	if b.d.Len() != 34 {
		t.Errorf("Len: %d, not 34", b.d.Len())
	}
	if code := New().Push(false, strings.Repeat("x", 1048577)); code != api.ErrLong {
		t.Errorf("Push of 1048577 bytes: %d", code)
	}
}

func TestP7_2_PushIntoEveryShape(t *testing.T) {
	for _, counts := range shapes {
		for n := range 35 {
			ahead, behind, turns := shaped(t, counts...), shaped(t, counts...), shaped(t, counts...)
			for i := range n {
				ahead.push(true, name(-i))
				behind.push(false, name(-i))
				turns.push(i%2 == 0, name(-i))
			}
		}
	}
}

func TestP7_2_NearlyFullChunks(t *testing.T) {
	for _, row := range []struct {
		ahead        bool
		before, then []int
	}{
		{true, []int{}, []int{1}}, {false, []int{}, []int{1}},
		{true, []int{31}, []int{32}}, {false, []int{31}, []int{32}},
		{true, []int{32}, []int{1, 32}}, {false, []int{32}, []int{32, 1}},
		{true, []int{31, 5}, []int{32, 5}}, {false, []int{5, 31}, []int{5, 32}},
		{true, []int{32, 5}, []int{1, 32, 5}}, {false, []int{5, 32}, []int{5, 32, 1}},
		{true, []int{5, 32}, []int{6, 32}}, {false, []int{32, 5}, []int{32, 6}},
		{true, []int{32, 1, 32}, []int{1, 32, 1, 32}}, {false, []int{32, 1, 32}, []int{32, 1, 32, 1}},
	} {
		b := shaped(t, row.before...)
		b.push(row.ahead, "x")
		b.chunks(row.then...)
	}
}

func TestP7_2_LongTexts(t *testing.T) {
	for _, ahead := range []bool{true, false} {
		b := shaped(t, 3)
		b.push(ahead, long)
		b.push(ahead, long[1:])
		b.push(ahead, "")
		for _, s := range []string{long + "x", long + long} {
			if code := b.d.Push(ahead, s); code != api.ErrLong {
				t.Errorf("Push(%v) of %d bytes: %d", ahead, len(s), code)
			}
			hold(t, b.d, b.m)
		}
	}
}

func TestP7_2_AnyBytes(t *testing.T) {
	b := newBoth(t)
	for _, s := range []string{"", "\x00", "\xff\xfe", "é", "a\r\nb", strings.Repeat("\x80", 300)} {
		b.push(true, s)
		b.push(false, s)
		b.push(false, s)
	}
}

// allOf makes a deque with as many texts as may be, in chunks of 32.
func allOf(t *testing.T, ahead bool) *Deque {
	t.Helper()
	d := New()
	for i := range 1048576 {
		if code := d.Push(ahead, ""); code != api.OK {
			t.Fatalf("Push behind %d texts: %d", i, code)
		}
	}
	whole(t, d)
	return d
}

// whole sees to it that nothing was changed of what allOf made.
func whole(t *testing.T, d *Deque) {
	t.Helper()
	counts := d.Chunks()
	if d.Len() != 1048576 || d.Cost() != 16*1048576 || len(counts) != 32768 || slices.Min(counts) != 32 || slices.Max(counts) != 32 {
		t.Fatalf("%d texts that cost %d, in %d chunks", d.Len(), d.Cost(), len(counts))
	}
}

func TestP7_2_AsManyAsMayBe(t *testing.T) {
	for _, ahead := range []bool{true, false} {
		d := allOf(t, ahead)
		for _, there := range []bool{true, false} {
			if code := d.Push(there, "x"); code != api.ErrFull {
				t.Errorf("Push(%v) onto all: %d", there, code)
			}
			if code := d.Push(there, long+"x"); code != api.ErrLong {
				t.Errorf("Push(%v) of too long a text onto all: %d", there, code)
			}
		}
		whole(t, d)
		d.Pop(ahead)
		if code := d.Push(!ahead, "x"); code != api.OK || d.Len() != 1048576 {
			t.Errorf("Push where there is room again: %d", code)
		}
		if code := d.Push(!ahead, "x"); code != api.ErrFull {
			t.Errorf("Push onto all once more: %d", code)
		}
	}
}

func TestP7_5_AsManyAsMayBe(t *testing.T) {
	d := allOf(t, false)
	for _, i := range []int{0, 1, 16, 31, 32, 1 << 19, 1<<20 - 1, 1 << 20} {
		if code := d.Insert(i, "x"); code != api.ErrFull {
			t.Errorf("Insert(%d) into all: %d", i, code)
		}
		if code := d.Insert(i, long+"x"); code != api.ErrLong {
			t.Errorf("Insert(%d) of too long a text into all: %d", i, code)
		}
	}
	for _, i := range []int{-1, 1<<20 + 1, math.MinInt, math.MaxInt} {
		if code := d.Insert(i, long+"x"); code != api.ErrArg {
			t.Errorf("Insert(%d) of too long a text into all: %d", i, code)
		}
	}
	whole(t, d)
	if !d.Set(1<<19, "") || !d.Set(1<<19, "xy") || d.Cost() != 16*1048576+2 {
		t.Error("Set where there is no room for one more")
	}
	d.Remove(7)
	if code := d.Insert(1<<20-1, "x"); code != api.OK || d.Len() != 1<<20 {
		t.Errorf("Insert where there is room again: %d", code)
	}
	if code := d.Insert(0, "x"); code != api.ErrFull {
		t.Errorf("Insert into all once more: %d", code)
	}
}

func TestP7_3_EmptyDeques(t *testing.T) {
	emptied, trimmed := shaped(t, 2), shaped(t, 2)
	emptied.pop(true)
	emptied.pop(false)
	trimmed.trim(1, 1)
	for _, b := range []both{newBoth(t), emptied, trimmed} {
		for _, first := range []bool{true, false} {
			if s, ok := b.d.Pop(first); s != "" || ok {
				t.Errorf("Pop(%v) of none: %q %v", first, s, ok)
			}
		}
		b.chunks()
		b.push(true, "again")
		b.pop(false)
	}
}

func TestP7_3_EveryShape(t *testing.T) {
	for _, counts := range shapes {
		firsts, lasts, turns := shaped(t, counts...), shaped(t, counts...), shaped(t, counts...)
		for i := range firsts.d.Len() + 2 {
			firsts.pop(true)
			lasts.pop(false)
			turns.pop(i%2 == 0)
		}
		firsts.chunks()
		lasts.chunks()
		turns.chunks()
	}
}

func TestP7_3_OnlyTextOfAChunk(t *testing.T) {
	b := shaped(t, 1, 32, 1)
	b.pop(true)
	b.chunks(32, 1)
	b.pop(false)
	b.chunks(32)
	b.pop(false)
	b.chunks(31)
	b = shaped(t, 1, 1)
	b.pop(true)
	b.chunks(1)
	b.pop(true)
	b.chunks()
}

func TestP7_4_AtEveryPlace(t *testing.T) {
	for _, counts := range shapes {
		b := shaped(t, counts...)
		for _, i := range append([]int{b.d.Len(), b.d.Len() + 1, b.d.Len() + 32}, farOff...) {
			if s, ok := b.d.At(i); s != "" || ok {
				t.Errorf("%v: At(%d): %q %v", counts, i, s, ok)
			}
		}
		if b.d.Len() == 0 {
			continue
		}
		if s, ok := b.d.At(0); s != name(0) || !ok {
			t.Errorf("%v: the first is %q %v", counts, s, ok)
		}
	}
}

func TestP7_4_SetEveryPlace(t *testing.T) {
	for _, counts := range shapes {
		b := shaped(t, counts...)
		for i := range b.d.Len() {
			b.set(i, strings.Repeat("s", i%40))
			b.chunks(counts...)
		}
		for _, i := range append([]int{b.d.Len(), b.d.Len() + 1}, farOff...) {
			if b.d.Set(i, "x") {
				t.Errorf("%v: Set(%d)", counts, i)
			}
		}
		hold(t, b.d, b.m)
	}
}

func TestP7_4_SetLongTexts(t *testing.T) {
	b := shaped(t, 32, 2)
	for _, i := range []int{0, 31, 32, 33} {
		b.set(i, long)
		if b.d.Set(i, long+"x") {
			t.Errorf("Set(%d) took a text that is too long", i)
		}
		hold(t, b.d, b.m)
		b.set(i, "")
	}
	if b.d.Set(34, long+"x") || b.d.Set(-1, long+"x") || New().Set(0, "x") {
		t.Error("Set at no place")
	}
	hold(t, b.d, b.m)
}

func TestP7_5_ChapterExamples(t *testing.T) {
	b := filled(t, 32)
	b.insert(16, "x")
	b.chunks(16, 17)
	if s, _ := b.d.At(16); s != "x" {
		t.Errorf("At(16): %q", s)
	}
	if s, _ := b.d.At(17); s != "a16" {
		t.Errorf("At(17): %q", s)
	}
	b = filled(t, 32)
	b.insert(15, "x")
	b.chunks(17, 16)
	b = filled(t, 32)
	b.insert(32, "x")
	b.chunks(16, 17)
	if s, _ := b.d.At(b.d.Len() - 1); s != "x" {
		t.Errorf("the last: %q", s)
	}
	for _, i := range []int{32, 33} {
		b = filled(t, 33)
		b.insert(i, "x")
		b.chunks(32, 2)
	}
	b = newBoth(t)
	if b.d.Insert(-1, "x") != api.ErrArg || b.d.Insert(1, "x") != api.ErrArg {
		t.Error("Insert at no place of an empty deque")
	}
	b.insert(0, "x")
	b.chunks(1)
}

func TestP7_5_EveryPlaceOfEveryShape(t *testing.T) {
	for _, counts := range shapes {
		for i := range shaped(t, counts...).d.Len() + 1 {
			b := shaped(t, counts...)
			b.insert(i, "x")
			b.insert(i, "y")
		}
	}
}

// A full chunk is parted at every place of it, at the begin, in the midst and at the end of the row.
func TestP7_5_FullChunks(t *testing.T) {
	for p := range 32 {
		want := [2]int{17, 16}
		if p >= 16 {
			want = [2]int{16, 17}
		}
		b := shaped(t, 32, 4)
		b.insert(p, "x")
		b.chunks(want[0], want[1], 4)
		b = shaped(t, 4, 32, 32)
		b.insert(4+p, "x")
		b.chunks(4, want[0], want[1], 32)
		b = shaped(t, 4, 32)
		b.insert(4+p, "x")
		b.chunks(4, want[0], want[1])
	}
	b := shaped(t, 4, 32)
	b.insert(36, "x")
	b.chunks(4, 16, 17)
	b = shaped(t, 31, 32)
	b.insert(31, "x") // at the seam it goes into the chunk behind
	b.chunks(31, 17, 16)
	b = shaped(t, 32, 31)
	b.insert(32, "x")
	b.chunks(32, 32)
	b = shaped(t, 31)
	b.insert(31, "x")
	b.chunks(32)
}

func TestP7_5_ManyAtOnePlace(t *testing.T) {
	begin, midst, end := newBoth(t), newBoth(t), newBoth(t)
	for i := range 200 {
		begin.insert(0, name(i))
		midst.insert(i/2, name(i))
		end.insert(i, name(i))
	}
}

func TestP7_5_NoPlace(t *testing.T) {
	for _, counts := range shapes {
		b := shaped(t, counts...)
		for _, i := range append([]int{b.d.Len() + 1, b.d.Len() + 2}, farOff...) {
			for _, s := range []string{"x", long + "x"} { // the place is asked for ahead of the text
				if code := b.d.Insert(i, s); code != api.ErrArg {
					t.Errorf("%v: Insert(%d): %d", counts, i, code)
				}
			}
		}
		hold(t, b.d, b.m)
	}
}

func TestP7_5_LongTexts(t *testing.T) {
	for _, counts := range [][]int{{}, {3}, {32}, {32, 32}} {
		b := shaped(t, counts...)
		for i := range b.d.Len() + 1 {
			if code := b.d.Insert(i, long+"x"); code != api.ErrLong {
				t.Errorf("%v: Insert(%d) of too long a text: %d", counts, i, code)
			}
		}
		hold(t, b.d, b.m)
		b.insert(b.d.Len()/2, long)
	}
}

func TestP7_6_EveryPlaceOfEveryShape(t *testing.T) {
	for _, counts := range shapes {
		for i := range shaped(t, counts...).d.Len() {
			b := shaped(t, counts...)
			for b.d.Len() > i { // what stands behind comes to the place, one by one
				b.remove(i)
			}
			b.remove(i)
		}
		b := shaped(t, counts...)
		for _, i := range append([]int{b.d.Len(), b.d.Len() + 1}, farOff...) {
			if b.d.Remove(i) {
				t.Errorf("%v: Remove(%d)", counts, i)
			}
		}
		hold(t, b.d, b.m)
	}
}

func TestP7_6_OnlyTextOfAChunk(t *testing.T) {
	b := shaped(t, 5, 1, 32, 1, 1)
	b.remove(5)
	b.chunks(5, 32, 1, 1)
	b.remove(38)
	b.chunks(5, 32, 1)
	b.remove(37)
	b.chunks(5, 32)
	b = shaped(t, 1, 2)
	b.remove(0)
	b.chunks(2)
	b.remove(1)
	b.chunks(1)
	b.remove(0)
	b.chunks()
}

func TestP7_6_NothingIsPutTogether(t *testing.T) {
	b := shaped(t, 32, 32)
	for range 31 {
		b.remove(0)
		b.remove(b.d.Len() - 1)
	}
	b.chunks(1, 1)
	b.push(true, "x")
	b.push(false, "y")
	b.chunks(2, 2)
}

func TestP7_7_ChapterExamples(t *testing.T) {
	b := filled(t, 40)
	b.chunks(32, 8)
	b.trim(30, 34)
	b.chunks(2, 2)
	b = filled(t, 40)
	b.trim(5, 5)
	b.chunks()
}

func TestP7_7_EveryFromAndTo(t *testing.T) {
	for _, counts := range [][]int{{}, {1}, {4}, {32}, {1, 1, 1}, {3, 1, 4}, {32, 1, 2}} {
		begin := shaped(t, counts...)
		n := begin.d.Len()
		for from := -2; from <= n+2; from++ {
			for to := -2; to <= n+2; to++ {
				b := begin.copy()
				b.trim(from, to)
				if want := max(min(to, n)-max(from, 0), 0); b.d.Len() != want {
					t.Fatalf("%v: Trim(%d, %d) leaves %d, not %d", counts, from, to, b.d.Len(), want)
				}
				b.push(true, "x")
				b.push(false, "y")
			}
		}
	}
}

func TestP7_7_FarOff(t *testing.T) {
	for _, counts := range shapes {
		for _, from := range farOff {
			for _, to := range append(slices.Clone(farOff), 0, 1, 3, 33) {
				b := shaped(t, counts...)
				b.trim(from, to)
				if from < 0 && to >= 1<<20 {
					b.chunks(counts...)
				}
				if from >= 1<<20 || to <= 0 {
					b.chunks()
				}
			}
		}
	}
}

func TestP7_8_Places(t *testing.T) {
	for _, counts := range shapes {
		b := shaped(t, counts...)
		next := 0
		for i, s := range b.d.Each() {
			if want, _ := b.d.At(i); i != next || s != want {
				t.Fatalf("%v: Each tells %d %q, not %d %q", counts, i, s, next, want)
			}
			next++
		}
		if next != b.d.Len() {
			t.Errorf("%v: Each tells %d texts of %d", counts, next, b.d.Len())
		}
	}
}

func TestP7_8_ChangedMeanwhile(t *testing.T) {
	for _, counts := range [][]int{{3}, {32}, {1, 1, 1}, {32, 32}, {32, 1, 32}} {
		for _, c := range changes {
			stood := texts(t, shaped(t, counts...).d)
			for when := range stood {
				b := shaped(t, counts...)
				each := b.d.Each()
				var got []string
				for i, s := range each {
					if i != len(got) {
						t.Fatalf("%v, %s: the place %d behind %d texts", counts, c.name, i, len(got))
					}
					if i == when {
						c.do(b)
					}
					got = append(got, s)
				}
				if !slices.Equal(got, stood) {
					t.Fatalf("%v, %s at %d: %q, not %q", counts, c.name, when, got, stood)
				}
				again(t, each, b.m.row)
			}
		}
	}
}

func again(t *testing.T, each func(func(int, string) bool), want []string) {
	t.Helper()
	var got []string
	for _, s := range each {
		got = append(got, s)
	}
	if !slices.Equal(got, want) {
		t.Fatalf("gone through again: %q, not %q", got, want)
	}
}

// Each was asked for ahead of all changes, and begins to go through behind each of them.
func TestP7_8_Again(t *testing.T) {
	for _, counts := range shapes {
		b := shaped(t, counts...)
		each := b.d.Each()
		again(t, each, b.m.row)
		for _, c := range changes {
			if b.d.Len() < 3 {
				break
			}
			c.do(b)
			again(t, each, b.m.row)
			again(t, each, b.m.row)
		}
		b.push(false, "behind all")
		again(t, each, b.m.row)
	}
}

func TestP7_8_LeftEarly(t *testing.T) {
	b := shaped(t, 32, 1, 32)
	each := b.d.Each()
	for stop := range b.d.Len() {
		met := 0
		for i := range each {
			if met++; i == stop {
				break
			}
		}
		if met != stop+1 {
			t.Fatalf("left at %d, behind %d texts", stop, met)
		}
	}
	calls := 0
	each(func(int, string) bool { calls++; return false })
	if calls != 1 {
		t.Errorf("it goes on behind a false: %d calls", calls)
	}
	again(t, each, b.m.row)
}

func TestP7_8_WithinOneAnother(t *testing.T) {
	b := shaped(t, 2, 32)
	each := b.d.Each()
	pairs := 0
	for i := range each {
		inner := 0
		for j, s := range each {
			if want, _ := b.d.At(j); j != inner || s != want {
				t.Fatalf("within %d: %d %q", i, j, s)
			}
			inner++
		}
		pairs += inner
	}
	if pairs != 34*34 {
		t.Errorf("%d pairs of 34 texts", pairs)
	}
}

func TestP7_8_NoDeque(t *testing.T) {
	var none *Deque
	for i, s := range none.Each() {
		t.Errorf("of no deque: %d %q", i, s)
	}
	for i, s := range New().Each() {
		t.Errorf("of an empty one: %d %q", i, s)
	}
}

func TestP7_9_Chunks(t *testing.T) {
	for _, counts := range shapes {
		b := shaped(t, counts...)
		told := b.d.Chunks()
		for i := range told {
			told[i] = 99
		}
		b.chunks(counts...)
		b.push(false, "x")
	}
}

func TestP7_9_Cost(t *testing.T) {
	d := New()
	d.Push(false, "")
	d.Push(false, "abc")
	if d.Cost() != 35 {
		t.Errorf("Cost: %d, not 35", d.Cost())
	}
	for _, c := range []struct {
		do   func()
		want int64
	}{
		{func() { d.Set(0, "0123456789") }, 45},
		{func() { d.Set(9, "none") }, 45},
		{func() { d.Set(0, long+"x") }, 45},
		{func() { d.Insert(1, "xy") }, 63},
		{func() { d.Insert(7, "none") }, 63},
		{func() { d.Push(true, long+"x") }, 63},
		{func() { d.Remove(0) }, 37},
		{func() { d.Remove(2) }, 37},
		{func() { d.Push(true, long) }, 37 + 16 + 1048576},
		{func() { d.Pop(true) }, 37},
		{func() { d.Pop(false) }, 18},
		{func() { d.Trim(0, 1) }, 18},
		{func() { d.Trim(1, 1) }, 0},
		{func() { d.Pop(true) }, 0},
	} {
		c.do()
		if d.Cost() != c.want || d.Copy().Cost() != c.want {
			t.Errorf("Cost: %d, of the copy %d, not %d", d.Cost(), d.Copy().Cost(), c.want)
		}
	}
}

// What it costs hangs on the texts alone, however they lie.
func TestP7_9_CostOfOtherChunks(t *testing.T) {
	a, b := shaped(t, 1, 32, 7), newBoth(t)
	for _, s := range texts(t, a.d) {
		b.push(false, s)
	}
	if a.d.Cost() != b.d.Cost() || slices.Equal(a.d.Chunks(), b.d.Chunks()) {
		t.Error(a.d.Cost(), b.d.Cost(), a.d.Chunks(), b.d.Chunks())
	}
}

func TestP7_9_CopyIsApart(t *testing.T) {
	for _, counts := range shapes {
		for _, c := range changes {
			b := shaped(t, counts...)
			other := b.copy()
			hold(t, other.d, other.m)
			if b.d.Len() < 3 {
				b.push(true, "x")
				hold(t, other.d, other.m)
				other.push(false, "y")
				hold(t, b.d, b.m)
				continue
			}
			c.do(b)
			hold(t, other.d, other.m)
			third := other.copy()
			c.do(other)
			hold(t, b.d, b.m)
			hold(t, third.d, third.m)
		}
	}
}

func TestP7_9_CopyOfNone(t *testing.T) {
	var none *Deque
	for _, d := range []*Deque{none.Copy(), New().Copy()} {
		if d == nil {
			t.Fatal("the copy is no deque")
		}
		b := both{t, d, &spelled{}}
		hold(t, b.d, b.m)
		b.push(true, "x")
		b.insert(0, "y")
	}
	if none.Copy().Len() != 0 {
		t.Error("two copies are one")
	}
}

func TestP7_10_NoDeque(t *testing.T) {
	var d *Deque
	for _, i := range append([]int{0, 1}, farOff...) {
		if s, ok := d.At(i); s != "" || ok {
			t.Errorf("At(%d): %q %v", i, s, ok)
		}
		if d.Set(i, "x") || d.Set(i, long+"x") || d.Remove(i) {
			t.Errorf("Set or Remove at %d", i)
		}
		if a, b := d.Insert(i, "x"), d.Insert(i, long+"x"); a != api.ErrNil || b != api.ErrNil {
			t.Errorf("Insert(%d): %d %d", i, a, b)
		}
		for _, to := range append([]int{0, 1}, farOff...) {
			d.Trim(i, to)
		}
	}
	for _, end := range []bool{true, false} {
		if s, ok := d.Pop(end); s != "" || ok {
			t.Errorf("Pop(%v): %q %v", end, s, ok)
		}
		if a, b := d.Push(end, "x"), d.Push(end, long+"x"); a != api.ErrNil || b != api.ErrNil {
			t.Errorf("Push(%v): %d %d", end, a, b)
		}
	}
	if d.Len() != 0 || d.Cost() != 0 || len(d.Chunks()) != 0 {
		t.Error(d.Len(), d.Cost(), d.Chunks())
	}
}

func TestP7_12_BothWays(t *testing.T) {
	for _, n := range []int{0, 1, 2, 31, 32, 33, 63, 64, 65, 200, 1 << 20} {
		for _, ahead := range []bool{true, false} {
			for _, first := range []bool{true, false} {
				d := New()
				for i := range n {
					d.Push(ahead, name(i))
				}
				for i := range n {
					want := name(i)
					if first == ahead {
						want = name(n - 1 - i)
					}
					if s, ok := d.Pop(first); s != want || !ok {
						t.Fatalf("%d pushed (%v), popped (%v): %q %v, not %q", n, ahead, first, s, ok, want)
					}
				}
				if d.Len() != 0 || len(d.Chunks()) != 0 {
					t.Fatalf("%d are left", d.Len())
				}
			}
		}
	}
}

// A few texts are in the row at any time, while many go through it.
func TestP7_12_PassingThrough(t *testing.T) {
	for _, ahead := range []bool{true, false} {
		for _, depth := range []int{1, 31, 32, 33, 70} {
			d := New()
			for i := range 500 {
				d.Push(ahead, name(i))
				if i < depth {
					continue
				}
				if s, ok := d.Pop(!ahead); s != name(i-depth) || !ok {
					t.Fatalf("depth %d: %q %v, not %q", depth, s, ok, name(i-depth))
				}
				if got := len(d.Chunks()); got > depth/32+2 {
					t.Fatalf("depth %d: %v", depth, d.Chunks())
				}
			}
		}
	}
}

// watched fills a deque with texts of their own memory, and tells how to see whether something holds on to them.
func watched(n int) (*Deque, []weak.Pointer[byte]) {
	d := New()
	var eyes []weak.Pointer[byte]
	for i := range n {
		s := strings.Repeat(name(i), 100)
		d.Push(false, s)
		eyes = append(eyes, weak.Make(unsafe.StringData(s)))
	}
	return d, eyes
}

// The chapter's section Ways: what is gone is cleared.
func TestP7_6_WhatIsGoneIsLetGo(t *testing.T) {
	const n = 100
	for _, row := range []struct {
		name string
		do   func(d *Deque)
		gone func(i int) bool
	}{
		{"the first popped", func(d *Deque) { d.Pop(true) }, func(i int) bool { return i == 0 }},
		{"the last popped", func(d *Deque) { d.Pop(false) }, func(i int) bool { return i == n-1 }},
		{"one removed", func(d *Deque) { d.Remove(40) }, func(i int) bool { return i == 40 }},
		{"the last of a chunk removed", func(d *Deque) { d.Remove(63) }, func(i int) bool { return i == 63 }},
		{"one set", func(d *Deque) { d.Set(40, "x") }, func(i int) bool { return i == 40 }},
		{"trimmed", func(d *Deque) { d.Trim(10, 80) }, func(i int) bool { return i < 10 || i >= 80 }},
		{"trimmed to one", func(d *Deque) { d.Trim(50, 51) }, func(i int) bool { return i != 50 }},
		{"all trimmed", func(d *Deque) { d.Trim(3, 3) }, func(i int) bool { return true }},
		{"parted", func(d *Deque) { d.Insert(40, "x"); d.Remove(40); d.Trim(0, 48) }, func(i int) bool { return i >= 48 }},
		{"the second part trimmed", func(d *Deque) { d.Insert(35, "x"); d.Trim(49, 200) }, func(i int) bool { return i < 48 }},
		{"gone through", func(d *Deque) {
			for i := range d.Each() {
				if i == 3 {
					break
				}
			}
			d.Pop(true)
		}, func(i int) bool { return i == 0 }},
	} {
		d, eyes := watched(n)
		row.do(d)
		runtime.GC()
		for i, eye := range eyes {
			if held := eye.Value() != nil; held == row.gone(i) {
				t.Errorf("%s: the text %d is held on to: %v", row.name, i, held)
			}
		}
		runtime.KeepAlive(d)
	}
}
