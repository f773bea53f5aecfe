package draw

import (
	"math"
	"math/rand"
	"slices"
	"strings"
	"testing"

	"pantry/api"
)

// seeds are those at the edges, and some between.
var seeds = []uint64{0, 1, 2, 255, 256, 1 << 31, 1 << 32, 1<<32 - 1, 1 << 63, math.MaxInt64, math.MaxUint64 - 1, math.MaxUint64, 0xCBF29CE484222325, 0x123456789ABCDEF0}

// texts are ordinary ones, and those whose bytes may be taken for something else than bytes.
var texts = []string{
	"", "a", "b", "ab", "ba", "key", "Key", "pantry", "the quick brown fox", " ", "a ", "\r\n",
	"\x00", "\x00\x00", "a\x00", "\x00a", "a\x00b", "\x7f", "\x80", "\xff", "\xff\xff", "\xff\x00", "\x7f\x80",
	"\u00e9", "\xe9", "e\u0301", "\u20ac", "\xe2\x82", "\xe2", "\U0001f96b", "\xf0\x9f\xa5", "\ufffd", "\xed\xa0\x80", "\xc0\x80", "a\xffb",
}

func checkHash(t *testing.T, seed uint64, s string) {
	t.Helper()
	if got, want := Hash(seed, s), spelledHash(seed, s); got != want {
		t.Errorf("Hash(%d, %.20q) = %d; want %d", seed, s, got, want)
	}
}

func TestP4_1_ChapterExamples(t *testing.T) {
	for _, x := range []struct {
		seed uint64
		s    string
		want uint64
	}{
		{0, "", 9615434041927672947}, {0, "a", 9417481573473063714}, {1, "a", 15918890184967323160},
		{0, "pantry", 6757428951546481954}, {0, "\x00", 8203627883128763089},
	} {
		if got := Hash(x.seed, x.s); got != x.want {
			t.Errorf("Hash(%d, %q) = %d; want %d", x.seed, x.s, got, x.want)
		}
		if got := spelledHash(x.seed, x.s); got != x.want {
			t.Errorf("the chapter's words give %d for %d, %q; want %d", got, x.seed, x.s, x.want)
		}
	}
}

func TestP4_1_TextsAndSeeds(t *testing.T) {
	for _, seed := range seeds {
		for _, s := range texts {
			checkHash(t, seed, s)
		}
	}
}

func TestP4_1_EveryByte(t *testing.T) {
	for i := range 256 {
		b := string([]byte{byte(i)})
		for _, s := range []string{b, b + b, b + "a", "a" + b, "a" + b + "a"} {
			checkHash(t, 0, s)
			checkHash(t, math.MaxUint64, s)
		}
	}
}

func TestP4_1_EveryBitOfTheSeed(t *testing.T) {
	for bit := range 64 {
		for _, s := range []string{"", "\x00", "a", "pantry", "\xff\xfe"} {
			checkHash(t, 1<<bit, s)
			checkHash(t, ^uint64(1<<bit), s)
		}
	}
}

func TestP4_1_LongTexts(t *testing.T) {
	for _, length := range []int{7, 8, 9, 63, 64, 65, 255, 256, 257, 4096} {
		checkHash(t, 7, strings.Repeat("\x00", length))
		checkHash(t, 7, strings.Repeat("\xff", length))
		checkHash(t, 7, strings.Repeat("pantry", length))
	}
	checkHash(t, math.MaxUint64, strings.Repeat("\xe2\x82\xacx", api.MaxText/4))
}

func TestP4_1_DrawnTexts(t *testing.T) {
	source := rand.New(rand.NewSource(4))
	for range 5000 {
		row := make([]byte, source.Intn(40))
		source.Read(row)
		checkHash(t, source.Uint64(), string(row))
	}
}

func TestP4_1_TheSameEachTime(t *testing.T) {
	before := Hash(5, "pantry")
	for _, s := range texts {
		Hash(9, s)
	}
	if again := Hash(5, "pantry"); again != before {
		t.Errorf("Hash(5, pantry) was %d and is %d", before, again)
	}
}

// takeAll tells what is left of a source. How much that is it asks ahead, so that it ends also where Left does not fall.
func takeAll(s *Source) []uint64 {
	var l []uint64
	for range s.Left() {
		l = append(l, s.Next())
	}
	return l
}

// counted is a list in which no two numbers are alike and none is 0.
func counted(n int) []uint64 {
	l := make([]uint64, n)
	for i := range l {
		l[i] = uint64(i)*0x9E3779B97F4A7C15 + 1
	}
	return l
}

func TestP4_2_InTheirOrder(t *testing.T) {
	for _, l := range [][]uint64{
		{7, 3}, {3, 7}, {5}, {0}, {0, 0, 0}, {0, 1, 0}, {4, 4, 4}, {9, 1, 8, 2}, {math.MaxUint64}, {math.MaxUint64, 0, 1 << 63, math.MaxInt64}, counted(1000),
	} {
		if got := takeAll(New(l)); !slices.Equal(got, l) {
			t.Errorf("the source of %v tells %v", l, got)
		}
	}
}

func TestP4_2_NoListAndAnEmptyOne(t *testing.T) {
	for _, l := range [][]uint64{nil, {}, counted(3)[:0]} {
		s := New(l)
		if s == nil {
			t.Fatal("New tells no source")
		}
		if s.Left() != 0 || s.Next() != 0 || s.Below(3) != 0 || s.Below(0) != 0 || s.Left() != 0 {
			t.Error("a source of nothing has a number")
		}
	}
}

func TestP4_2_TheListIsNotKept(t *testing.T) {
	l := counted(5)
	want := slices.Clone(l)
	s := New(l)
	for i := range l {
		l[i] = 1000
	}
	if got := takeAll(s); !slices.Equal(got, want) {
		t.Errorf("written to ahead of the taking: %v; want %v", got, want)
	}
	l = slices.Clone(want)
	s = New(l)
	s.Next()
	l[0], l[1], l[4] = 1000, 1001, 1004
	if got := takeAll(s); !slices.Equal(got, want[1:]) {
		t.Errorf("written to between the taking: %v; want %v", got, want[1:])
	}
}

func TestP4_2_WhatStandsBehindTheList(t *testing.T) {
	room := counted(6)
	s := New(room[1:3])
	if s.Left() != 2 || s.Next() != room[1] || s.Next() != room[2] || s.Next() != 0 || s.Left() != 0 {
		t.Error("a source tells what stands behind its list, or ahead of it")
	}
	l := counted(6)[:0]
	s = New(l)
	_ = append(l, 1, 2, 3)
	if s.Left() != 0 || s.Next() != 0 {
		t.Error("a source tells what was laid behind its list")
	}
}

func TestP4_2_TheListIsNotChanged(t *testing.T) {
	room := counted(8)
	want := slices.Clone(room)
	s := New(room[:4])
	for range 10 {
		s.Next()
		s.Below(3)
	}
	if !slices.Equal(room, want) {
		t.Errorf("the list was %v and is %v", want, room)
	}
}

func TestP4_2_EachSourceForItself(t *testing.T) {
	l := counted(4)
	a, b := New(l), New(l)
	a.Next()
	a.Below(2)
	if a.Left() != 2 || b.Left() != 4 {
		t.Errorf("left are %d and %d; want 2 and 4", a.Left(), b.Left())
	}
	if got := takeAll(b); !slices.Equal(got, l) {
		t.Errorf("the second source tells %v; want %v", got, l)
	}
	if got := takeAll(a); !slices.Equal(got, l[2:]) {
		t.Errorf("the first source tells %v; want %v", got, l[2:])
	}
}

func TestP4_3_ChapterExample(t *testing.T) {
	s := New([]uint64{7, 3})
	if n := s.Below(5); n != 2 {
		t.Errorf("Below(5) of 7 = %d; want 2", n)
	}
	if n := s.Below(0); n != 0 {
		t.Errorf("Below(0) = %d; want 0", n)
	}
	if n := s.Next(); n != 0 {
		t.Errorf("Next behind the end = %d; want 0", n)
	}
	if n := s.Left(); n != 0 {
		t.Errorf("Left = %d; want 0", n)
	}
}

func TestP4_3_BehindTheEnd(t *testing.T) {
	for _, l := range [][]uint64{nil, {5}, {5, 6, 7}, {math.MaxUint64}} {
		s := New(l)
		takeAll(s)
		for i := range 1000 {
			if n := s.Next(); n != 0 {
				t.Fatalf("Next = %d behind the end", n)
			}
			if n := s.Below(uint64(i)); n != 0 {
				t.Fatalf("Below(%d) = %d behind the end", i, n)
			}
			if n := s.Below(math.MaxUint64); n != 0 {
				t.Fatalf("Below of the greatest = %d behind the end", n)
			}
		}
	}
}

func TestP4_3_Below(t *testing.T) {
	for _, x := range []struct{ drawn, n, want uint64 }{
		{7, 5, 2}, {5, 5, 0}, {4, 5, 4}, {6, 5, 1}, {0, 5, 0}, {10, 5, 0}, {7, 1, 0}, {0, 1, 0}, {math.MaxUint64, 1, 0}, {7, 2, 1}, {8, 2, 0},
		{7, 0, 0}, {0, 0, 0}, {math.MaxUint64, 0, 0}, {1, math.MaxUint64, 1}, {math.MaxUint64, math.MaxUint64, 0}, {math.MaxUint64 - 1, math.MaxUint64, math.MaxUint64 - 1},
		{math.MaxUint64, 10, 5}, {math.MaxUint64, 1 << 63, math.MaxInt64}, {math.MaxUint64, 1 << 32, 1<<32 - 1}, {1 << 63, 10, 8}, {1 << 63, 1 << 63, 0},
		{1<<63 + 5, 1 << 63, 5}, {math.MaxInt64, 1 << 63, math.MaxInt64}, {1 << 32, 3, 1}, {3, 1 << 32, 3}, {math.MaxUint64, math.MaxUint64 - 1, 1}, {5, 7, 5},
	} {
		s := New([]uint64{x.drawn, 99})
		if got := s.Below(x.n); got != x.want {
			t.Errorf("Below(%d) of %d = %d; want %d", x.n, x.drawn, got, x.want)
		}
		if s.Left() != 1 || s.Next() != 99 {
			t.Errorf("Below(%d) did not take just one number", x.n)
		}
	}
}

// Whatever is asked in whatever order: what is told is what a place in the list tells that goes on by one a call.
func TestP4_3_CallsInAnyOrder(t *testing.T) {
	source := rand.New(rand.NewSource(43))
	for range 300 {
		l := make([]uint64, source.Intn(30))
		for i := range l {
			l[i] = source.Uint64() >> source.Intn(64)
		}
		s, at := New(l), 0
		for range len(l) + 10 {
			if got, want := s.Left(), max(len(l)-at, 0); got != want {
				t.Fatalf("Left = %d behind %d calls; want %d", got, at, want)
			}
			var drawn uint64
			if at < len(l) {
				drawn = l[at]
			}
			at++
			if source.Intn(2) == 0 {
				if got := s.Next(); got != drawn {
					t.Fatalf("Next = %d; want %d", got, drawn)
				}
				continue
			}
			n, want := source.Uint64()>>(source.Intn(65)), uint64(0)
			if n > 0 {
				want = drawn % n
			}
			if got := s.Below(n); got != want {
				t.Fatalf("Below(%d) of %d = %d; want %d", n, drawn, got, want)
			}
		}
	}
}

func TestP4_4_Left(t *testing.T) {
	for length := range 20 {
		s := New(counted(length))
		for taken := range length + 5 {
			want := max(length-taken, 0)
			if got := s.Left(); got != want {
				t.Errorf("Left of %d numbers behind %d calls = %d; want %d", length, taken, got, want)
			}
			if again := s.Left(); again != want {
				t.Errorf("Left asked once more = %d; want %d", again, want)
			}
			if taken%2 == 0 {
				s.Next()
			} else {
				s.Below(uint64(taken % 3))
			}
		}
	}
	if got := New(make([]uint64, 1<<16)).Left(); got != 1<<16 {
		t.Errorf("Left of noughts alone = %d; want %d", got, 1<<16)
	}
}

func TestP4_4_NoSource(t *testing.T) {
	var s *Source
	for range 3 {
		if n := s.Next(); n != 0 {
			t.Errorf("Next = %d", n)
		}
		for _, n := range []uint64{0, 1, 3, math.MaxUint64} {
			if got := s.Below(n); got != 0 {
				t.Errorf("Below(%d) = %d", n, got)
			}
		}
		if n := s.Left(); n != 0 {
			t.Errorf("Left = %d", n)
		}
	}
}

// apart says of each hash whose it is, and fails where two have the same.
type apart map[uint64]string

func (a apart) add(t *testing.T, hash uint64, whose string) {
	t.Helper()
	if other, have := a[hash]; have {
		t.Errorf("%q and %q have the same hash", other, whose)
	}
	a[hash] = whose
}

func TestP4_5_UnlikeSeeds(t *testing.T) {
	source := rand.New(rand.NewSource(45))
	for _, s := range append([]string{strings.Repeat("pantry", 200)}, texts...) {
		for _, seed := range seeds {
			for bit := range 64 {
				if other := seed ^ 1<<bit; Hash(seed, s) == Hash(other, s) {
					t.Errorf("of the seeds %d and %d %.20q has the same hash", seed, other, s)
				}
			}
		}
		seen := map[uint64]uint64{}
		for i := range uint64(2000) {
			for _, seed := range []uint64{i, i << 32, i << 53, math.MaxUint64 - i, source.Uint64()} {
				if other, have := seen[Hash(seed, s)]; have && other != seed {
					t.Fatalf("of the seeds %d and %d %.20q has the same hash", seed, other, s)
				}
				seen[Hash(seed, s)] = seed
			}
		}
	}
}

func TestP4_5_TheSeedCanBeToldFromTheHash(t *testing.T) {
	source := rand.New(rand.NewSource(5))
	for _, s := range texts {
		for range 100 {
			seed := source.Uint64()
			if got := seedOf(Hash(seed, s), s); got != seed {
				t.Fatalf("Hash(%d, %q) is the hash of the seed %d", seed, s, got)
			}
		}
		for _, seed := range seeds {
			if got := seedOf(Hash(seed, s), s); got != seed {
				t.Fatalf("Hash(%d, %q) is the hash of the seed %d", seed, s, got)
			}
		}
	}
}

// Each place of a text in turn: at the front, in the middle, at the end.
func TestP4_5_OneByteDiffers(t *testing.T) {
	for _, seed := range seeds {
		for _, s := range append([]string{strings.Repeat("\x00", 40), strings.Repeat("\xff", 40)}, texts...) {
			for i := range len(s) {
				hashes := apart{}
				for b := range 256 {
					other := s[:i] + string([]byte{byte(b)}) + s[i+1:]
					hashes.add(t, Hash(seed, other), other)
				}
			}
		}
	}
}

func TestP4_5_OneByteOfALongTextDiffers(t *testing.T) {
	row := []byte(strings.Repeat("pantry \xff\x00", 1000))
	for _, i := range []int{0, 1, len(row) / 2, len(row) - 2, len(row) - 1} {
		hashes := apart{}
		was := row[i]
		for b := range 256 {
			row[i] = byte(b)
			hashes.add(t, Hash(11, string(row)), string(row[max(i-3, 0):i+1]))
		}
		row[i] = was
	}
}

func TestP4_6_BelowIsBelow(t *testing.T) {
	source := rand.New(rand.NewSource(46))
	drawn := []uint64{0, 1, 2, 5, 1<<32 - 1, 1 << 32, math.MaxInt64, 1 << 63, 1<<63 + 1, math.MaxUint64 - 1, math.MaxUint64}
	bounds := []uint64{1, 2, 3, 4, 5, 7, 10, 255, 256, 1<<32 - 1, 1 << 32, 1<<32 + 1, math.MaxInt64, 1 << 63, 1<<63 + 1, math.MaxUint64 - 1, math.MaxUint64}
	for range 200 {
		drawn = append(drawn, source.Uint64())
		bounds = append(bounds, source.Uint64()>>source.Intn(63)|1)
	}
	for _, n := range bounds {
		s := New(drawn)
		for range len(drawn) + 2 {
			if got := s.Below(n); got >= n {
				t.Fatalf("Below(%d) = %d", n, got)
			}
		}
	}
	var none *Source
	if got := none.Below(1); got >= 1 {
		t.Errorf("Below(1) of no source = %d", got)
	}
}
