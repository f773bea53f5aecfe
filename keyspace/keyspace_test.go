package keyspace

import (
	"fmt"
	"math"
	"math/rand/v2"
	"slices"
	"strconv"
	"strings"
	"testing"

	"pantry/api"
	"pantry/deque"
	"pantry/dict"
	"pantry/flock"
	"pantry/rank"
	"pantry/record"
	"pantry/scan"
	"pantry/value"
)

var (
	long    = strings.Repeat("l", 1048576)
	tooLong = long + "l"
)

// kinds are the five; objects are those that can become empty.
var (
	kinds   = []int{api.KdText, api.KdList, api.KdRecord, api.KdFlock, api.KdRanks}
	objects = kinds[1:]
)

// space makes an empty one, without a bound, of a seed.
func space(t *testing.T, seed uint64) *Space {
	t.Helper()
	s, code := New(api.Config{Seed: seed})
	if s == nil || code != api.OK {
		t.Fatalf("New: %v %d", s != nil, code)
	}
	return s
}

// puts lets each key hold its own name as a text.
func puts(t *testing.T, s *Space, keys ...string) {
	t.Helper()
	for _, key := range keys {
		if code := s.Put(key, value.Text(key)); code != api.OK {
			t.Fatalf("Put(%s): %d", clip(key), code)
		}
	}
}

// limits gives a key a deadline, which must be taken.
func limits(t *testing.T, s *Space, key string, at int64) {
	t.Helper()
	if !s.SetDeadline(key, at) {
		t.Fatalf("SetDeadline(%s, %d): false", clip(key), at)
	}
}

func ticks(t *testing.T, s *Space, now int64) {
	t.Helper()
	if code := s.Tick(now); code != api.OK || s.Now() != now {
		t.Fatalf("Tick(%d): %d, Now: %d", now, code, s.Now())
	}
}

func wantUsed(t *testing.T, s *Space, want int64) {
	t.Helper()
	if got := s.Used(); got != want {
		t.Errorf("Used: %d, not %d", got, want)
	}
}

func wantTouched(t *testing.T, s *Space, want ...string) {
	t.Helper()
	if got := s.Touched(); !slices.Equal(got, want) {
		t.Errorf("Touched: %q, not %q", got, want)
	}
}

// wantSteps names steps by a letter ahead of the key: x for one that expired, v for one that was evicted.
func wantSteps(t *testing.T, s *Space, want ...string) {
	t.Helper()
	var got []string
	for _, step := range s.Steps() {
		got = append(got, map[int]string{api.StExpired: "x", api.StEvicted: "v"}[step.Kind]+step.Key)
	}
	if !slices.Equal(got, want) {
		t.Errorf("Steps: %q, not %q", got, want)
	}
}

// wantStored names all that is stored: each key, and behind an @ its deadline.
func wantStored(t *testing.T, s *Space, want ...string) {
	t.Helper()
	var got []string
	for _, e := range s.Stored() {
		got = append(got, e.Key+"@"+strconv.FormatInt(e.Deadline, 10))
	}
	if !slices.Equal(got, want) {
		t.Errorf("Stored: %q, not %q", got, want)
	}
}

func wantStamp(t *testing.T, s *Space, key string, want uint64) {
	t.Helper()
	if got, ok := s.Stamp(key); got != want || ok != (want > 0) {
		t.Errorf("Stamp(%s): %d %v, not %d", clip(key), got, ok, want)
	}
}

func wantDeadline(t *testing.T, s *Space, key string, want int64) {
	t.Helper()
	if got, ok := s.Deadline(key); got != want || ok != (want > 0) {
		t.Errorf("Deadline(%s): %d %v, not %d", clip(key), got, ok, want)
	}
}

// wantText asks Look: a dash stands for a key that is not there.
func wantText(t *testing.T, s *Space, key, want string) {
	t.Helper()
	v, ok := s.Look(key)
	got := "-"
	if ok {
		got, _ = v.AsText()
	}
	if got != want || (v != nil) != ok {
		t.Errorf("Look(%s): %s %v, not %s", clip(key), clip(got), ok, clip(want))
	}
}

// wantLie holds what Sample and Scan tell against two dictionaries that were made by hand.
func wantLie(t *testing.T, s *Space, main, deadlines *dict.Dict[int]) {
	t.Helper()
	for r := range uint64(300) {
		if got, ok := s.Sample(true, r); !toldBy(main, r, got, ok) {
			t.Fatalf("Sample(true, %d): %q %v", r, got, ok)
		}
		if got, ok := s.Sample(false, r); !toldBy(deadlines, r, got, ok) {
			t.Fatalf("Sample(false, %d): %q %v", r, got, ok)
		}
		next, keys := s.Scan(r, 1)
		if want, wantKeys := scan.Next(main, r, 1); next != want || !slices.Equal(keys, wantKeys) {
			t.Fatalf("Scan(%d, 1): %d %q, not %d %q", r, next, keys, want, wantKeys)
		}
	}
}

func toldBy(d *dict.Dict[int], r uint64, key string, ok bool) bool {
	want, wantOk := d.Sample(r)
	return key == want && ok == wantOk
}

// number tells keys that do not rise as their numbers do.
func number(i int) string { return "n" + strconv.Itoa(i*7919%10007) }

// Chapter 13, example 5.
func TestP13_1_ChapterExample(t *testing.T) {
	s := space(t, 0)
	for _, now := range []int64{-1, 9007199254740993} {
		if code := s.Tick(now); code != api.ErrArg {
			t.Errorf("Tick(%d): %d", now, code)
		}
	}
	if s.Tick(7) != api.OK || s.Tick(3) != api.OK || s.Now() != 7 {
		t.Errorf("Tick(3) behind Tick(7): Now %d", s.Now())
	}
	for _, c := range []api.Config{{Most: -1}, {Policy: 1}, {Policy: 2, Samples: 17}} {
		if s, code := New(c); s != nil || code != api.ErrArg {
			t.Errorf("New(%v): %v %d", c, s != nil, code)
		}
	}
}

func TestP13_1_New(t *testing.T) {
	for _, seed := range []uint64{0, 1, math.MaxUint64} {
		for _, most := range []int64{math.MinInt64, -1, 0, 1, math.MaxInt64} {
			for _, policy := range []int{math.MinInt, -1, 0, 1, 2, 3, math.MaxInt} {
				for _, samples := range []int{math.MinInt, -1, 0, 1, 2, 15, 16, 17, math.MaxInt} {
					c := api.Config{Seed: seed, Most: most, Policy: policy, Samples: samples}
					fits := most >= 0 && (policy == 0 && samples == 0 || policy >= 0 && policy <= 2 && samples >= 1 && samples <= 16)
					s, code := New(c)
					if fits && (s == nil || code != api.OK || s.Config() != c) {
						t.Errorf("New(%v): %v %d, Config: %v", c, s != nil, code, s.Config())
					}
					if !fits && (s != nil || code != api.ErrArg) {
						t.Errorf("New(%v): %v %d", c, s != nil, code)
					}
				}
			}
		}
	}
}

func TestP13_1_ANewOne(t *testing.T) {
	s := space(t, 7)
	if s.Now() != 0 || s.Used() != 0 || s.Len() != 0 || len(s.Keys()) != 0 || len(s.Stored()) != 0 || s.Sweep(5) != 0 {
		t.Error("a new space is not empty")
	}
	if next, keys := s.Scan(5, 5); next != 0 || len(keys) != 0 {
		t.Errorf("Scan: %d %q", next, keys)
	}
	wantLie(t, s, dict.New[int](7), dict.New[int](8))
	wantText(t, s, "k", "-")
	wantTouched(t, s)
	wantSteps(t, s)
}

func TestP13_1_SpacesAreApart(t *testing.T) {
	a, b := space(t, 3), space(t, 3)
	puts(t, a, "k")
	limits(t, a, "k", 5)
	ticks(t, a, 4)
	if b.Now() != 0 || b.Len() != 0 || b.Used() != 0 {
		t.Error("what is done to one space is seen in another one")
	}
	wantTouched(t, b)
	puts(t, b, "l")
	wantStamp(t, b, "l", 1)
	wantStored(t, a, "k@5")
	wantTouched(t, a, "k")
}

// The main dictionary is of the seed itself, the other one of the next seed, and behind the last one comes 0.
func TestP13_1_SeedsOfBoth(t *testing.T) {
	for _, seed := range []uint64{0, 9, 1 << 63, math.MaxUint64 - 1, math.MaxUint64} {
		s, main, deadlines := space(t, seed), dict.New[int](seed), dict.New[int](seed+1)
		for i := range 60 {
			puts(t, s, number(i))
			main.Get(number(i))
			main.Set(number(i), 0)
			if i%2 == 0 {
				limits(t, s, number(i), 100)
				main.Get(number(i))
				deadlines.Set(number(i), 0)
			}
			wantLie(t, s, main, deadlines)
		}
	}
}

func TestP13_2_Bounds(t *testing.T) {
	s := space(t, 0)
	for _, now := range []int64{math.MinInt64, -1, 9007199254740993, math.MaxInt64} {
		if code := s.Tick(now); code != api.ErrArg || s.Now() != 0 {
			t.Errorf("Tick(%d): %d, Now: %d", now, code, s.Now())
		}
	}
	for _, now := range []int64{0, 0, 1, 7, 7, api.MaxTime - 1, 9007199254740992, api.MaxTime} {
		ticks(t, s, now)
	}
	if code := s.Tick(api.MaxTime + 1); code != api.ErrArg || s.Now() != api.MaxTime {
		t.Errorf("Tick behind the last: %d, Now: %d", code, s.Now())
	}
}

func TestP13_2_ItNeverGoesBack(t *testing.T) {
	s := space(t, 0)
	ticks(t, s, 7)
	for _, now := range []int64{3, 0, 6, 7} {
		if code := s.Tick(now); code != api.OK || s.Now() != 7 {
			t.Errorf("Tick(%d) behind Tick(7): %d, Now: %d", now, code, s.Now())
		}
	}
	if code := s.Tick(-1); code != api.ErrArg || s.Now() != 7 {
		t.Errorf("Tick(-1) behind Tick(7): %d, Now: %d", code, s.Now())
	}
}

// No key goes by a tick, and no dictionary does a step.
func TestP13_2_NothingGoes(t *testing.T) {
	b := newBoth(t, api.Config{Seed: 4})
	for i := range 17 { // the last one sets both dictionaries moving
		b.text(number(i), "v")
		b.setDeadline(number(i), 3)
	}
	b.touched()
	for now := range int64(9) {
		b.tick(now)
		b.steps()
		b.touched()
	}
	if len(b.s.Stored()) != 17 || b.s.Used() == 0 {
		t.Error("a tick took keys away")
	}
	b.lie()
}

func TestP13_3_GetAndLook(t *testing.T) {
	s := space(t, 0)
	v, w := value.Text("v"), filled(api.KdList, 2)
	s.Put("k", v)
	s.Put("l", w)
	for range 2 {
		if got, ok := s.Get("k"); got != v || !ok {
			t.Error("Get(k): another value")
		}
		if got, ok := s.Look("k"); got != v || !ok {
			t.Error("Look(k): another value")
		}
		if got, ok := s.Get("l"); got != w || !ok {
			t.Error("Get(l): another value")
		}
	}
	for _, key := range []string{"", "K", "kk", "\x00", tooLong} {
		if got, ok := s.Get(key); got != nil || ok {
			t.Errorf("Get(%s): %v %v", clip(key), got != nil, ok)
		}
		if got, ok := s.Look(key); got != nil || ok {
			t.Errorf("Look(%s): %v %v", clip(key), got != nil, ok)
		}
	}
	wantTouched(t, s, "k", "l") // by Put alone
	s.Get("k")
	s.Look("k")
	wantTouched(t, s)
	wantSteps(t, s)
}

// Chapter 13, example 2; and who is not there is not used.
func TestP13_3_WhoIsUsed(t *testing.T) {
	s := space(t, 0)
	puts(t, s, "k", "l")
	wantStamp(t, s, "k", 1)
	wantStamp(t, s, "l", 2)
	s.Get("k")
	wantStamp(t, s, "k", 3)
	s.Look("l")
	wantStamp(t, s, "l", 2)
	s.Get("m")
	s.Get("l")
	wantStamp(t, s, "l", 4)
	wantStamp(t, s, "k", 3)
	limits(t, s, "k", 5)
	ticks(t, s, 5)
	s.Get("k") // it is past
	s.Get("l")
	wantStamp(t, s, "l", 5)
}

func TestP13_3_WhatIsMetExpires(t *testing.T) {
	for name, meet := range map[string]func(s *Space) bool{
		"Get":         func(s *Space) bool { v, ok := s.Get("k"); return v != nil || ok },
		"Look":        func(s *Space) bool { v, ok := s.Look("k"); return v != nil || ok },
		"Changed":     func(s *Space) bool { return s.Changed("k") },
		"Delete":      func(s *Space) bool { return s.Delete("k") },
		"Evict":       func(s *Space) bool { return s.Evict("k") },
		"Deadline":    func(s *Space) bool { at, ok := s.Deadline("k"); return at != 0 || ok },
		"SetDeadline": func(s *Space) bool { return s.SetDeadline("k", 99) },
		"below":       func(s *Space) bool { return s.SetDeadline("k", 0) },
		"beyond":      func(s *Space) bool { return s.SetDeadline("k", api.MaxTime+1) },
		"Persist":     func(s *Space) bool { return s.Persist("k") },
		"Stamp":       func(s *Space) bool { n, ok := s.Stamp("k"); return n != 0 || ok },
		"Put":         func(s *Space) bool { return s.Put("k", value.List(nil)) != api.OK },
	} {
		for now := int64(9); now <= 12; now++ {
			s := space(t, 5)
			puts(t, s, "j", "k", "l")
			limits(t, s, "j", 10) // past as well, and not met
			limits(t, s, "k", 10)
			limits(t, s, "l", 13)
			s.Touched()
			ticks(t, s, now)
			wantStored(t, s, "j@10", "k@10", "l@13")
			there := meet(s)
			if now < 10 { // it is there then; what is done to it is said elsewhere
				if steps := s.Steps(); name != "Evict" && len(steps) != 0 {
					t.Errorf("%s at %d: %v", name, now, steps)
				}
				continue
			}
			if there {
				t.Errorf("%s at %d: it is there", name, now)
			}
			wantSteps(t, s, "xk")
			wantTouched(t, s, "k")
			wantStored(t, s, "j@10", "l@13")
			wantUsed(t, s, 2*66)
		}
	}
}

func TestP13_4_Put(t *testing.T) {
	s := space(t, 0)
	for i, kind := range kinds {
		v, key := filled(kind, 3), "key"+strconv.Itoa(i)
		before := s.Used()
		if code := s.Put(key, v); code != api.OK {
			t.Errorf("Put of the kind %d: %d", kind, code)
		}
		if got, ok := s.Look(key); got != v || !ok {
			t.Errorf("the kind %d: another value", kind)
		}
		wantUsed(t, s, before+48+4+v.Cost())
		wantStamp(t, s, key, uint64(i)+1)
		wantTouched(t, s, key)
	}
	wantStored(t, s, "key0@0", "key1@0", "key2@0", "key3@0", "key4@0")
	wantSteps(t, s)
}

func TestP13_4_OverAnother(t *testing.T) {
	s := space(t, 0)
	puts(t, s, "k", "l")
	s.Touched()
	v := filled(api.KdFlock, 2)
	if s.Put("k", v) != api.OK {
		t.Error("Put over a key")
	}
	if got, _ := s.Look("k"); got != v || s.Len() != 2 {
		t.Error("the key holds what it held")
	}
	wantStamp(t, s, "k", 3)
	wantStamp(t, s, "l", 2)
	wantUsed(t, s, 48+1+2*25+50)
	wantTouched(t, s, "k")
	puts(t, s, "k")
	puts(t, s, "k") // holds the same: touched all the same
	wantTouched(t, s, "k")
	wantStamp(t, s, "k", 5)
	wantUsed(t, s, 100)
}

func TestP13_4_Refusals(t *testing.T) {
	s := space(t, 0)
	puts(t, s, "k", "past")
	limits(t, s, "k", 20)
	limits(t, s, "past", 5)
	ticks(t, s, 5)
	s.Touched()
	var none *Space
	for _, c := range []struct {
		s    *Space
		key  string
		v    *value.Value
		want api.Errno
	}{
		{s, "k", nil, api.ErrNil},
		{s, "past", nil, api.ErrNil},
		{s, "new", nil, api.ErrNil},
		{s, tooLong, nil, api.ErrNil},
		{none, "k", value.Text("v"), api.ErrNil},
		{none, tooLong, value.Text(tooLong), api.ErrNil},
		{none, "k", nil, api.ErrNil},
		{s, tooLong, value.Text("v"), api.ErrLong},
		{s, tooLong, value.List(nil), api.ErrLong},
		{s, "k", value.Text(tooLong), api.ErrLong},
		{s, "past", value.Text(tooLong), api.ErrLong},
		{s, tooLong, value.Text(tooLong), api.ErrLong},
	} {
		if code := c.s.Put(c.key, c.v); code != c.want {
			t.Errorf("Put(%s): %d, not %d", clip(c.key), code, c.want)
		}
		wantStored(t, s, "k@20", "past@5")
		wantUsed(t, s, 48+2+16+48+8+16)
		wantTouched(t, s)
		wantSteps(t, s)
	}
	wantText(t, s, "k", "k")
	s.Get("k")
	wantStamp(t, s, "k", 3) // what was refused did not use it
}

// A Put that is refused does no step of a dictionary either; all others meet the key.
func TestP13_4_RefusalsDoNoStep(t *testing.T) {
	s, main := space(t, 2), dict.New[int](2)
	for i := range 5 {
		puts(t, s, number(i))
		main.Get(number(i))
		main.Set(number(i), 0)
	}
	s.Put(number(1), nil)
	s.Put(tooLong, value.Text(""))
	s.Put(number(1), value.Text(tooLong))
	wantLie(t, s, main, dict.New[int](3))
	s.Put(number(9), value.List(nil))
	main.Get(number(9))
	wantLie(t, s, main, dict.New[int](3))
}

func TestP13_4_AsLongAsMayBe(t *testing.T) {
	s := space(t, 0)
	if s.Put(long, value.Text("v")) != api.OK || s.Put("k", value.Text(long)) != api.OK || s.Put("", value.Text("")) != api.OK {
		t.Error("Put of texts of MaxText bytes")
	}
	wantUsed(t, s, 48+1048576+1+48+1+1048576+48)
	wantText(t, s, long, "v")
	wantText(t, s, "k", long)
	wantText(t, s, "", "")
	d := deque.New()
	d.Push(true, long)
	d.Push(true, long)
	if s.Put("d", value.List(d)) != api.OK { // greater than a text may be, but it is none
		t.Error("Put of two texts of MaxText bytes")
	}
}

// Chapter 13, example 4.
func TestP13_4_AnEmptyValue(t *testing.T) {
	for _, kind := range objects {
		s := space(t, 0)
		puts(t, s, "a", "k")
		limits(t, s, "k", 9)
		s.Touched()
		if s.Put("new", filled(kind, 0)) != api.OK || s.Len() != 2 {
			t.Errorf("the kind %d: a key that was not there", kind)
		}
		wantTouched(t, s)
		if s.Put("k", filled(kind, 0)) != api.OK {
			t.Errorf("the kind %d: Put over a key", kind)
		}
		wantText(t, s, "k", "-")
		wantStored(t, s, "a@0")
		wantUsed(t, s, 50)
		wantTouched(t, s, "k")
		wantSteps(t, s)
		if _, ok := s.Sample(false, 0); ok {
			t.Errorf("the kind %d: a deadline without a key", kind)
		}
		s.Get("a")
		wantStamp(t, s, "a", 3) // nothing was used by an empty value
	}
	s := space(t, 0)
	if s.Put("k", value.Text("")) != api.OK || s.Len() != 1 {
		t.Error("a text without bytes is not empty")
	}
}

func TestP13_4_ADeadlineEnds(t *testing.T) {
	s, main, deadlines := space(t, 6), dict.New[int](6), dict.New[int](7)
	for i := range 9 {
		puts(t, s, number(i))
		main.Get(number(i))
		main.Set(number(i), 0)
		limits(t, s, number(i), 9)
		main.Get(number(i))
		deadlines.Set(number(i), 0)
	}
	puts(t, s, number(3))
	main.Get(number(3))
	deadlines.Delete(number(3))
	main.Set(number(3), 0)
	wantLie(t, s, main, deadlines)
	wantDeadline(t, s, number(3), 0)
	main.Get(number(3))
	ticks(t, s, 9)
	if keys := s.Keys(); !slices.Equal(keys, []string{number(3)}) {
		t.Errorf("Keys: %q", keys)
	}
	wantUsed(t, s, 48+2*int64(len(number(3))))
	if s.SetDeadline(number(3), 12); s.Used() != 64+2*int64(len(number(3))) {
		t.Errorf("Used with a new deadline: %d", s.Used())
	}
}

// A key that is past is not there any more when Put has met it: it expires, and holds the new value then.
func TestP13_4_OverAPastKey(t *testing.T) {
	s, main, deadlines := space(t, 6), dict.New[int](6), dict.New[int](7)
	puts(t, s, "k")
	main.Get("k")
	main.Set("k", 0)
	limits(t, s, "k", 3)
	main.Get("k")
	deadlines.Set("k", 0)
	s.Touched()
	ticks(t, s, 4)
	puts(t, s, "k")
	main.Get("k")
	main.Delete("k")
	deadlines.Delete("k")
	main.Set("k", 0)
	wantLie(t, s, main, deadlines)
	wantSteps(t, s, "xk")
	wantTouched(t, s, "k")
	wantStored(t, s, "k@0")
	wantUsed(t, s, 50)
	wantStamp(t, s, "k", 2)
}

func TestP13_5_Changed(t *testing.T) {
	for _, kind := range objects {
		s := space(t, 0)
		v := filled(kind, 1)
		s.Put("k", v)
		limits(t, s, "k", 8)
		s.Touched()
		for i := range 5 {
			if !grow(v, "more"+strconv.Itoa(i)) || !s.Changed("k") {
				t.Fatalf("the kind %d: Changed behind a change", kind)
			}
			wantUsed(t, s, 48+1+16+v.Cost())
			wantTouched(t, s, "k")
		}
		for !v.Empty() {
			wantUsed(t, s, 48+1+16+v.Cost())
			shrink(v)
			if !s.Changed("k") {
				t.Fatalf("the kind %d: Changed behind a change", kind)
			}
		}
		if s.Changed("k") || s.Len() != 0 {
			t.Errorf("the kind %d: it has become empty, and stays", kind)
		}
		wantUsed(t, s, 0)
		wantTouched(t, s, "k")
		wantSteps(t, s)
		if _, ok := s.Sample(false, 0); ok {
			t.Errorf("the kind %d: a deadline without a key", kind)
		}
	}
}

// What changes in a value counts from the call of Changed on, that of its own key.
func TestP13_5_WhenItIsReckoned(t *testing.T) {
	s := space(t, 0)
	f := flock.New(1)
	f.Add("a")
	s.Put("k", value.Flock(f))
	s.Put("l", filled(api.KdFlock, 1))
	wantUsed(t, s, 2*(48+1+25))
	f.Add("b")
	s.Get("k")
	s.Changed("l")
	s.Changed("m")
	wantUsed(t, s, 2*(48+1+25)) // nothing is promised of it here, but this is what the words say
	if !s.Changed("k") {
		t.Error("Changed(k): false")
	}
	wantUsed(t, s, 2*(48+1+25)+25)
}

func TestP13_5_WhatStays(t *testing.T) {
	s := space(t, 0)
	puts(t, s, "k", "l")
	limits(t, s, "k", 9)
	s.Touched()
	if !s.Changed("k") || s.Changed("m") || s.Changed(tooLong) {
		t.Error("Changed of a text, or of nothing")
	}
	wantTouched(t, s, "k")
	wantStored(t, s, "k@9", "l@0")
	wantStamp(t, s, "k", 1)
	wantText(t, s, "k", "k")
	wantUsed(t, s, 50+66)
}

func TestP13_6_Delete(t *testing.T) {
	s := space(t, 0)
	puts(t, s, "a", "b", "c")
	limits(t, s, "b", 9)
	s.Touched()
	if !s.Delete("a") || s.Delete("a") || !s.Delete("b") || s.Delete("b") || s.Delete("") || s.Delete(tooLong) {
		t.Error("Delete")
	}
	wantTouched(t, s, "a", "b")
	wantSteps(t, s)
	wantStored(t, s, "c@0")
	wantUsed(t, s, 50)
	if _, ok := s.Sample(false, 0); ok {
		t.Error("a deadline without a key")
	}
	puts(t, s, "b") // it has no deadline left over from before
	wantDeadline(t, s, "b", 0)
}

func TestP13_6_Evict(t *testing.T) {
	s := space(t, 0)
	puts(t, s, "a", "b", "c")
	limits(t, s, "b", 9)
	s.Touched()
	if !s.Evict("c") || s.Evict("c") || !s.Evict("b") || s.Evict("b") || s.Evict("") || s.Evict(tooLong) {
		t.Error("Evict")
	}
	wantTouched(t, s, "b", "c")
	wantSteps(t, s, "vc", "vb")
	wantStored(t, s, "a@0")
	wantUsed(t, s, 50)
	limits(t, s, "a", 9)
	ticks(t, s, 9)
	if s.Evict("a") {
		t.Error("Evict of a key that is past")
	}
	wantSteps(t, s, "xa")
}

func TestP13_7_Deadline(t *testing.T) {
	s := space(t, 0)
	puts(t, s, "k", "l")
	limits(t, s, "k", 10)
	s.Touched()
	for _, now := range []int64{0, 1, 9} {
		ticks(t, s, now)
		wantDeadline(t, s, "k", 10)
		wantDeadline(t, s, "l", 0)
		wantDeadline(t, s, "m", 0)
		wantDeadline(t, s, tooLong, 0)
	}
	wantTouched(t, s)
	wantStamp(t, s, "k", 1)
	ticks(t, s, 10)
	wantDeadline(t, s, "k", 0)
	wantSteps(t, s, "xk")
	wantTouched(t, s, "k")
}

func TestP13_8_SetDeadline(t *testing.T) {
	s := space(t, 0)
	puts(t, s, "k")
	s.Touched()
	for _, at := range []int64{7, 3, 7, 7, 1, api.MaxTime, 9007199254740992, 6} {
		limits(t, s, "k", at)
		wantDeadline(t, s, "k", at)
		wantUsed(t, s, 66)
		wantTouched(t, s, "k")
	}
	for _, at := range []int64{9007199254740993, math.MaxInt64} {
		if s.SetDeadline("k", at) {
			t.Errorf("SetDeadline(k, %d): true", at)
		}
	}
	if s.SetDeadline("l", 9) || s.SetDeadline("l", 0) || s.SetDeadline(tooLong, 9) {
		t.Error("SetDeadline of a key that is not there")
	}
	wantTouched(t, s)
	wantSteps(t, s)
	wantStored(t, s, "k@6")
	wantStamp(t, s, "k", 1)
}

// Chapter 13, example 3; and whatever is not above the clock.
func TestP13_8_NotAboveTheClock(t *testing.T) {
	for _, at := range []int64{5, 4, 0, -1, math.MinInt64} {
		for _, limited := range []bool{false, true} {
			s := space(t, 0)
			puts(t, s, "k")
			if limited {
				limits(t, s, "k", 6)
			}
			ticks(t, s, 5)
			s.Touched()
			if !s.SetDeadline("k", at) {
				t.Errorf("SetDeadline(k, %d): false", at)
			}
			wantStored(t, s)
			wantUsed(t, s, 0)
			wantSteps(t, s)
			wantTouched(t, s, "k")
			if _, ok := s.Sample(false, 0); ok {
				t.Error("a deadline without a key")
			}
			if s.SetDeadline("k", 9) {
				t.Error("SetDeadline of a key that is not there")
			}
		}
	}
	s := space(t, 0)
	puts(t, s, "k")
	limits(t, s, "k", 1) // the clock is 0: that is above
	wantStored(t, s, "k@1")
	puts(t, s, "last")
	ticks(t, s, api.MaxTime)
	if !s.SetDeadline("last", api.MaxTime) || s.Len() != 0 {
		t.Error("at the end of time")
	}
	wantSteps(t, s, "xk")
}

func TestP13_9_Persist(t *testing.T) {
	s := space(t, 0)
	puts(t, s, "k", "l")
	limits(t, s, "k", 10)
	s.Touched()
	if s.Persist("l") || s.Persist("m") || s.Persist(tooLong) {
		t.Error("Persist without a deadline")
	}
	wantTouched(t, s)
	if !s.Persist("k") || s.Persist("k") {
		t.Error("Persist with one")
	}
	wantTouched(t, s, "k")
	wantStored(t, s, "k@0", "l@0")
	wantUsed(t, s, 100)
	wantStamp(t, s, "k", 1)
	if _, ok := s.Sample(false, 0); ok {
		t.Error("a deadline without a key")
	}
	ticks(t, s, 10)
	if s.Len() != 2 {
		t.Error("it went all the same")
	}
	wantSteps(t, s)
}

// due makes a space of keys whose deadlines are not in the order of the keys; the last one has none.
func due(t *testing.T) *Space {
	t.Helper()
	s := space(t, 3)
	for _, e := range []struct {
		key string
		at  int64
	}{{"d", 3}, {"a", 9}, {"c", 5}, {"\xff", 3}, {"", 5}, {"b", 5}, {"e", 4}} {
		puts(t, s, e.key)
		limits(t, s, e.key, e.at)
	}
	puts(t, s, "stays")
	s.Touched()
	return s
}

func TestP13_10_Sweep(t *testing.T) {
	order := []string{"xd", "x\xff", "xe", "x", "xb", "xc"}
	for most := -2; most <= 8; most++ {
		s := due(t)
		if s.Sweep(most) != 0 {
			t.Errorf("Sweep(%d), where none is past", most)
		}
		ticks(t, s, 5)
		want := max(0, min(most, 6))
		if n := s.Sweep(most); n != want {
			t.Errorf("Sweep(%d): %d, not %d", most, n, want)
		}
		wantSteps(t, s, order[:want]...)
		wantUsed(t, s, 48+2*5+7*64+2*6-costOf(order[:want]))
		var gone []string
		for _, step := range order[:want] {
			gone = append(gone, step[1:])
		}
		slices.Sort(gone)
		wantTouched(t, s, gone...)
		if len(s.Stored()) != 8-want {
			t.Errorf("Sweep(%d): %d are left", most, len(s.Stored()))
		}
	}
}

// costOf tells what the keys of such steps cost.
func costOf(steps []string) int64 {
	sum := int64(0)
	for _, step := range steps {
		sum += 64 + 2*int64(len(step)-1)
	}
	return sum
}

func TestP13_10_OneByOne(t *testing.T) {
	s := due(t)
	for _, most := range []int{math.MinInt, -1, 0} {
		if n := s.Sweep(most); n != 0 {
			t.Errorf("Sweep(%d): %d", most, n)
		}
	}
	ticks(t, s, 4)
	for _, want := range []string{"xd", "x\xff", "xe"} {
		if n := s.Sweep(1); n != 1 {
			t.Errorf("Sweep(1): %d", n)
		}
		wantSteps(t, s, want)
	}
	if s.Sweep(1) != 0 {
		t.Error("Sweep(1), where none is left")
	}
	wantSteps(t, s)
	ticks(t, s, api.MaxTime)
	if n := s.Sweep(math.MaxInt); n != 4 {
		t.Errorf("Sweep of all: %d", n)
	}
	wantSteps(t, s, "x", "xb", "xc", "xa")
	wantStored(t, s, "stays@0")
}

func TestP13_11_AllPastKeysExpire(t *testing.T) {
	for name, look := range map[string]func(s *Space){
		"Len":    func(s *Space) { s.Len() },
		"Keys":   func(s *Space) { s.Keys() },
		"Sample": func(s *Space) { s.Sample(true, 1) },
		"due":    func(s *Space) { s.Sample(false, 1) },
		"Scan":   func(s *Space) { s.Scan(3, 0) },
		"Clear":  func(s *Space) { s.Clear() },
	} {
		s := due(t)
		ticks(t, s, 2)
		if name != "Clear" {
			look(s)
		}
		wantTouched(t, s)
		wantSteps(t, s)
		ticks(t, s, 5)
		look(s)
		wantSteps(t, s, "xd", "x\xff", "xe", "x", "xb", "xc")
		if name != "Clear" {
			wantTouched(t, s, "", "b", "c", "d", "e", "\xff")
			wantStored(t, s, "a@9", "stays@0")
		}
		look(s)
		wantSteps(t, s)
	}
}

func TestP13_11_LenAndKeys(t *testing.T) {
	s := space(t, 12)
	want := []string{}
	for i := range 70 {
		puts(t, s, number(i))
		want = append(want, number(i))
	}
	slices.Sort(want)
	if s.Len() != 70 || !slices.Equal(s.Keys(), want) {
		t.Errorf("Len: %d, Keys: %q", s.Len(), s.Keys())
	}
	limits(t, s, want[9], 2)
	ticks(t, s, 2)
	want = slices.Delete(want, 9, 10)
	if s.Len() != 69 || !slices.Equal(s.Keys(), want) {
		t.Errorf("Len: %d, Keys: %q", s.Len(), s.Keys())
	}
}

func TestP13_11_SampleOfDeadlines(t *testing.T) {
	s := space(t, 9)
	for i := range 50 {
		puts(t, s, number(i))
	}
	if key, ok := s.Sample(false, 0); key != "" || ok {
		t.Errorf("a key with a deadline: %q %v", key, ok)
	}
	limits(t, s, number(7), 5)
	drawn := map[string]int{}
	for r := range uint64(3000) {
		if key, ok := s.Sample(false, r*r); key != number(7) || !ok {
			t.Fatalf("Sample(false, %d): %q %v", r*r, key, ok)
		}
		key, ok := s.Sample(true, r)
		if !ok {
			t.Fatalf("Sample(true, %d): none", r)
		}
		drawn[key]++
	}
	if len(drawn) != 50 {
		t.Errorf("%d of 50 are drawn", len(drawn))
	}
	ticks(t, s, 5)
	if key, ok := s.Sample(false, 0); key != "" || ok {
		t.Errorf("a past key: %q %v", key, ok)
	}
}

func TestP13_11_ScanToTheEnd(t *testing.T) {
	for _, count := range []int{-1, 0, 1, 7, 1000} {
		s := space(t, 9)
		for i := range 100 {
			puts(t, s, number(i))
		}
		told := map[string]int{}
		cursor, calls := uint64(0), 0
		for calls == 0 || cursor != 0 {
			next, keys := s.Scan(cursor, count)
			for _, key := range keys {
				told[key]++
			}
			cursor = next
			calls++
			s.Get(number(calls)) // one that changes how it lies
		}
		if len(told) != 100 || count == 1000 && calls != 1 {
			t.Errorf("Scan by %d: %d of 100, %d calls", count, len(told), calls)
		}
	}
}

// A call that finds past keys takes them away by the two Deletes, and by nothing else.
func TestP13_11_NoOtherStep(t *testing.T) {
	s, main, deadlines := space(t, 20), dict.New[int](20), dict.New[int](21)
	for i := range 33 {
		puts(t, s, number(i))
		main.Get(number(i))
		main.Set(number(i), 0)
		if i < 17 {
			limits(t, s, number(i), 40-int64(i))
			main.Get(number(i))
			deadlines.Set(number(i), 0)
		}
	}
	for now := int64(20); now < 42; now++ {
		ticks(t, s, now)
		if now%2 == 0 {
			s.Len()
			for i := 16; i >= 0; i-- {
				if at := 40 - int64(i); at == now || at == now-1 {
					main.Delete(number(i))
					deadlines.Delete(number(i))
				}
			}
			wantLie(t, s, main, deadlines)
		}
	}
	if s.Len() != 16 {
		t.Errorf("Len: %d", s.Len())
	}
}

func TestP13_12_Stamp(t *testing.T) {
	s := space(t, 0)
	puts(t, s, "a", "b", "c")
	for range 3 {
		wantStamp(t, s, "a", 1)
		wantStamp(t, s, "c", 3)
		wantStamp(t, s, "none", 0)
		wantStamp(t, s, tooLong, 0)
	}
	limits(t, s, "a", 9)
	s.Persist("a")
	s.Deadline("a")
	s.Look("a")
	s.Changed("a")
	s.Keys()
	s.Sample(true, 0)
	s.Scan(0, 9)
	s.Stored()
	wantStamp(t, s, "a", 1) // none of these is a use
	s.Delete("b")
	s.Evict("c")
	puts(t, s, "b")
	wantStamp(t, s, "b", 4)
	s.Clear()
	puts(t, s, "b")
	wantStamp(t, s, "b", 5)
}

func TestP13_13_Stored(t *testing.T) {
	s := space(t, 0)
	r, f, z, d := record.New(1), flock.New(1), rank.New(1), deque.New()
	for _, name := range []string{"y", "x"} {
		r.Set(name, "of "+name)
		f.Add(name)
		d.Push(false, name)
	}
	z.Set("low", -1)
	z.Set("high", 2)
	s.Put("rec", value.Record(r))
	s.Put("flo", value.Flock(f))
	s.Put("ran", value.Ranks(z))
	s.Put("lis", value.List(d))
	s.Put("", value.Text("abc"))
	limits(t, s, "lis", 7)
	want := []api.Stored{
		{Value: api.Plain{Kind: api.KdText, Text: "abc"}},
		{Key: "flo", Value: api.Plain{Kind: api.KdFlock, Items: []string{"x", "y"}}},
		{Key: "lis", Deadline: 7, Value: api.Plain{Kind: api.KdList, Items: []string{"y", "x"}}},
		{Key: "ran", Value: api.Plain{Kind: api.KdRanks, Ranks: []api.Ranked{{Member: "low", Score: -1}, {Member: "high", Score: 2}}}},
		{Key: "rec", Value: api.Plain{Kind: api.KdRecord, Pairs: []api.Pair{{Field: "x", Value: "of x"}, {Field: "y", Value: "of y"}}}},
	}
	for now := range int64(9) { // from 7 on one of them is past
		ticks(t, s, now)
		if got := s.Stored(); !slices.EqualFunc(got, want, sameStored) {
			t.Errorf("Stored at %d: %v", now, got)
		}
		wantUsed(t, s, 5*48+3+4*3+16+34+50+87+74)
	}
	wantSteps(t, s)
	if s.Len() != 4 {
		t.Errorf("Len: %d", s.Len())
	}
	wantUsed(t, s, 4*48+3+3*3+50+87+74)
}

// Used and Stored change nothing at all: nothing goes, nothing is touched or used, and no dictionary does a step.
func TestP13_13_NothingChanges(t *testing.T) {
	b := newBoth(t, api.Config{Seed: 31})
	for i := range 17 { // the last one sets both dictionaries moving
		b.text(number(i), "v")
		b.setDeadline(number(i), 1+int64(i%2))
	}
	b.touched()
	b.tick(1)
	for range 50 {
		b.s.Used()
		b.s.Stored()
	}
	b.touched()
	b.steps()
	b.lie()
	b.stamp(number(1))
	b.end()
}

func TestP13_14_Touched(t *testing.T) {
	s := space(t, 0)
	puts(t, s, "b", "", "a", "\xff", "a", "b")
	limits(t, s, "b", 4)
	wantTouched(t, s, "", "a", "b", "\xff")
	wantTouched(t, s)
	s.Changed("a")
	s.Delete("a")
	wantTouched(t, s, "a")
	puts(t, s, "a")
	s.Get("b")
	wantTouched(t, s, "a")
	wantTouched(t, s)
}

func TestP13_14_Steps(t *testing.T) {
	s := space(t, 0)
	wantSteps(t, s)
	puts(t, s, "a", "b", "c", "d")
	limits(t, s, "a", 4)
	limits(t, s, "c", 2)
	s.Evict("d")
	s.Evict("b")
	ticks(t, s, 4)
	s.Len()
	puts(t, s, "d")
	s.Evict("d")
	wantSteps(t, s, "vd", "vb", "xc", "xa", "vd") // one key may have two
	wantSteps(t, s)
	wantTouched(t, s, "a", "b", "c", "d") // the steps' being told does not forget them
	puts(t, s, "e")
	s.Evict("e")
	wantTouched(t, s, "e")
	wantSteps(t, s, "ve")
}

func TestP13_15_Clear(t *testing.T) {
	s := due(t)
	s.Evict("stays")
	puts(t, s, "stays")
	ticks(t, s, 4)
	wantTouched(t, s, "stays")
	puts(t, s, "extra")
	s.Delete("extra")
	s.Clear()
	wantSteps(t, s, "vstays", "xd", "x\xff", "xe")
	wantTouched(t, s, "", "a", "b", "c", "d", "e", "extra", "stays", "\xff")
	wantUsed(t, s, 0)
	wantStored(t, s)
	if s.Len() != 0 || len(s.Keys()) != 0 || s.Now() != 4 {
		t.Errorf("behind Clear: %d keys, Now %d", s.Len(), s.Now())
	}
	wantLie(t, s, dict.New[int](3), dict.New[int](4))
	s.Clear()
	wantTouched(t, s)
	wantSteps(t, s)
	puts(t, s, "k")
	wantStamp(t, s, "k", 11)
	wantDeadline(t, s, "k", 0)
	wantUsed(t, s, 50)
}

// Both tables are taken away: what comes in behind lies as in a new space.
func TestP13_15_BothDictionaries(t *testing.T) {
	s, main, deadlines := space(t, 8), dict.New[int](8), dict.New[int](9)
	for i := range 40 {
		puts(t, s, number(i))
		limits(t, s, number(i), 99)
	}
	s.Clear()
	for i := range 5 {
		puts(t, s, number(i))
		main.Get(number(i))
		main.Set(number(i), 0)
		limits(t, s, number(i), 99)
		main.Get(number(i))
		deadlines.Set(number(i), 0)
		wantLie(t, s, main, deadlines)
	}
}

func TestP13_16_NoSpace(t *testing.T) {
	var s *Space
	for _, now := range []int64{-1, 0, 1, api.MaxTime + 1} {
		if code := s.Tick(now); code != api.ErrNil {
			t.Errorf("Tick(%d): %d", now, code)
		}
	}
	for _, key := range []string{"", "k", tooLong} {
		v, got := s.Get(key)
		w, looked := s.Look(key)
		at, limited := s.Deadline(key)
		stamp, stamped := s.Stamp(key)
		if v != nil || got || w != nil || looked || at != 0 || limited || stamp != 0 || stamped {
			t.Errorf("the key %s is told", clip(key))
		}
		if s.Changed(key) || s.Delete(key) || s.Evict(key) || s.SetDeadline(key, 5) || s.SetDeadline(key, -5) || s.Persist(key) {
			t.Errorf("something is done to the key %s", clip(key))
		}
		if s.Put(key, value.Text("v")) != api.ErrNil || s.Put(key, nil) != api.ErrNil {
			t.Errorf("Put(%s)", clip(key))
		}
	}
	if s.Config() != (api.Config{}) || s.Now() != 0 || s.Len() != 0 || s.Used() != 0 || s.Sweep(5) != 0 || s.Sweep(-5) != 0 {
		t.Error("a number is told")
	}
	if len(s.Keys()) != 0 || len(s.Stored()) != 0 || len(s.Touched()) != 0 || len(s.Steps()) != 0 {
		t.Error("a list is told")
	}
	for _, all := range []bool{false, true} {
		if key, ok := s.Sample(all, 7); key != "" || ok {
			t.Errorf("Sample(%v, 7): %q %v", all, key, ok)
		}
	}
	if next, keys := s.Scan(7, 7); next != 0 || len(keys) != 0 {
		t.Errorf("Scan: %d %q", next, keys)
	}
	s.Clear()
}

// Chapter 13, example 1.
func TestP13_17_ChapterExample(t *testing.T) {
	s := space(t, 0)
	if s.Put("k", value.Text("abc")) != api.OK {
		t.Error("Put")
	}
	wantUsed(t, s, 52)
	limits(t, s, "k", 10)
	wantUsed(t, s, 68)
	wantDeadline(t, s, "k", 10)
	s.Touched()
	ticks(t, s, 9)
	wantText(t, s, "k", "abc")
	ticks(t, s, 10)
	wantUsed(t, s, 68)
	wantText(t, s, "k", "-")
	wantUsed(t, s, 0)
	wantSteps(t, s, "xk")
	wantTouched(t, s, "k")
}

// Used is at all times the sum of what is told of all that is stored.
func TestP13_17_WhatItCosts(t *testing.T) {
	for seed := range uint64(30) {
		x := script{newBoth(t, api.Config{Seed: seed}), rand.New(rand.NewPCG(seed, 17)), someKeys(15), 30}
		for range 200 {
			x.one()
			sum := int64(0)
			for _, e := range x.s.Stored() {
				sum += 48 + int64(len(e.Key)) + value.Cost(e.Value)
				if e.Deadline != 0 {
					sum += 16
				}
			}
			wantUsed(t, x.s, sum)
		}
	}
}

// watched is a space of which all is looked at, ahead of each call and behind it.
type watched struct {
	t      *testing.T
	s      *Space
	before map[string]int64 // deadlines
}

func (w *watched) look() map[string]int64 {
	all := map[string]int64{}
	for _, e := range w.s.Stored() {
		all[e.Key] = e.Deadline
	}
	return all
}

// told is asked of each key that a call tells.
func (w *watched) told(call string, keys ...string) {
	w.t.Helper()
	for _, key := range keys {
		if at, ok := w.before[key]; !ok || at != 0 && at <= w.s.Now() {
			w.t.Fatalf("%s tells %q: stored %v, its deadline %d, the clock %d", call, key, ok, at, w.s.Now())
		}
	}
}

// went looks at the keys that went, but for those that the call may take away.
func (w *watched) went(may func(key string) bool) {
	w.t.Helper()
	after, expired := w.look(), map[string]int{}
	for _, step := range w.s.Steps() {
		if step.Kind != api.StExpired {
			continue
		}
		expired[step.Key]++
		if at := w.before[step.Key]; at == 0 || at > w.s.Now() || expired[step.Key] > 1 {
			w.t.Fatalf("%q expired, its deadline %d, the clock %d", step.Key, at, w.s.Now())
		}
	}
	for key := range w.before {
		if _, ok := after[key]; !ok && expired[key] == 0 && !may(key) {
			w.t.Fatalf("%q went without a step", key)
		}
	}
}

func TestP13_18_NobodySeesWhatIsPast(t *testing.T) {
	for seed := range uint64(40) {
		r := rand.New(rand.NewPCG(seed, 18))
		w, keys := watched{t: t, s: space(t, seed)}, someKeys(12)
		for range 400 {
			w.before = w.look()
			key, named := keys[r.IntN(len(keys))], ""
			cleared := false
			switch r.IntN(14) {
			case 0, 1, 2:
				named = key
				w.s.Put(key, filled(kinds[r.IntN(5)], r.IntN(5)))
			case 3, 4, 5:
				at := w.s.Now() + r.Int64N(12) - 2
				if w.s.SetDeadline(key, at) && at <= w.s.Now() {
					named = key
				}
			case 6:
				if _, ok := w.s.Get(key); ok {
					w.told("Get", key)
				}
			case 7:
				if _, ok := w.s.Look(key); ok {
					w.told("Look", key)
				}
			case 8:
				if r.IntN(3) == 0 {
					w.told("Keys", w.s.Keys()...)
				}
			case 9:
				if drawn, ok := w.s.Sample(r.IntN(2) == 0, r.Uint64()); ok {
					w.told("Sample", drawn)
				}
			case 10:
				_, some := w.s.Scan(r.Uint64N(16), r.IntN(4))
				w.told("Scan", some...)
			case 11:
				w.s.Sweep(r.IntN(3))
			case 12:
				if cleared = r.IntN(20) == 0; cleared {
					w.s.Clear()
				}
			default:
				w.s.Tick(w.s.Now() + r.Int64N(3))
			}
			w.went(func(gone string) bool { return cleared || gone == named })
		}
	}
}

// transcript does things at random to a space, and writes down all that it tells, but for what shows how it lies.
func transcript(seed uint64, r *rand.Rand) []string {
	s, code := New(api.Config{Seed: seed})
	told := []string{fmt.Sprint(code)}
	keys := someKeys(25)
	for range 600 {
		key := keys[r.IntN(len(keys))]
		var line string
		switch r.IntN(17) {
		case 0, 1, 2:
			line = fmt.Sprint("Put", s.Put(key, filled(kinds[r.IntN(5)], r.IntN(5))))
		case 3, 4, 5:
			line = fmt.Sprint("SetDeadline", s.SetDeadline(key, s.Now()+r.Int64N(12)-1))
		case 6:
			v, ok := s.Get(key)
			line = fmt.Sprint("Get", v.Plain(), ok)
		case 7:
			v, ok := s.Look(key)
			line = fmt.Sprint("Look", v.Plain(), ok)
		case 8:
			v, _ := s.Look(key)
			shrink(v)
			line = fmt.Sprint("Changed", s.Changed(key))
		case 9:
			n, ok := s.Stamp(key)
			at, limited := s.Deadline(key)
			line = fmt.Sprint("Stamp", n, ok, at, limited)
		case 10:
			line = fmt.Sprint("gone", s.Delete(key), s.Evict(keys[r.IntN(len(keys))]), s.Persist(keys[r.IntN(len(keys))]))
		case 11:
			line = fmt.Sprint("Sweep", s.Sweep(r.IntN(4)))
		case 12:
			line = fmt.Sprint("Len", s.Len(), s.Keys())
		case 13:
			line = fmt.Sprint("Steps", s.Steps(), s.Touched())
		case 14: // what these two tell is left out, what they do is not
			s.Sample(r.IntN(2) == 0, r.Uint64())
			s.Scan(r.Uint64(), r.IntN(5))
		case 15:
			if r.IntN(40) == 0 {
				s.Clear()
			}
		default:
			line = fmt.Sprint("Tick", s.Tick(s.Now()+r.Int64N(4)-1), s.Now())
		}
		told = append(told, line, fmt.Sprint(s.Used(), s.Stored()))
	}
	return told
}

func TestP13_19_Seeds(t *testing.T) {
	for n := range uint64(12) {
		want := transcript(0, rand.New(rand.NewPCG(n, 19)))
		for _, seed := range []uint64{1, n + 2, 1 << 40, math.MaxUint64} {
			got := transcript(seed, rand.New(rand.NewPCG(n, 19)))
			for i := range want {
				if got[i] != want[i] {
					t.Fatalf("the seed %d: %s, not %s", seed, got[i], want[i])
				}
			}
		}
	}
}

// Other seeds are seen by Sample and Scan.
func TestP13_19_SampleAndScan(t *testing.T) {
	a, b := space(t, 1), space(t, 2)
	for i := range 30 {
		puts(t, a, number(i))
		puts(t, b, number(i))
		limits(t, a, number(i), 5)
		limits(t, b, number(i), 5)
	}
	main, deadlines, scans := 0, 0, 0
	for r := range uint64(32) {
		x, _ := a.Sample(true, r)
		y, _ := b.Sample(true, r)
		if x != y {
			main++
		}
		x, _ = a.Sample(false, r)
		y, _ = b.Sample(false, r)
		if x != y {
			deadlines++
		}
		_, l := a.Scan(r, 1)
		_, k := b.Scan(r, 1)
		if !slices.Equal(l, k) {
			scans++
		}
	}
	if main < 16 || deadlines < 16 || scans < 16 {
		t.Errorf("of 32 numbers %d, %d and %d are answered otherwise", main, deadlines, scans)
	}
}

// calls are all that are done to one key, and to all of them.
var calls = map[string]func(b both, key string){
	"Get":          func(b both, key string) { b.get(key) },
	"Look":         func(b both, key string) { b.look(key) },
	"Put":          func(b both, key string) { b.text(key, "new") },
	"Put of none":  func(b both, key string) { b.put(key, nil) },
	"Put of empty": func(b both, key string) { b.put(key, value.Ranks(nil)) },
	"Changed":      func(b both, key string) { b.changed(key) },
	"Delete":       func(b both, key string) { b.delete(key) },
	"Evict":        func(b both, key string) { b.evict(key) },
	"Deadline":     func(b both, key string) { b.deadline(key) },
	"SetDeadline":  func(b both, key string) { b.setDeadline(key, b.m.clock+9) },
	"at the clock": func(b both, key string) { b.setDeadline(key, b.m.clock) },
	"beyond":       func(b both, key string) { b.setDeadline(key, api.MaxTime+1) },
	"Persist":      func(b both, key string) { b.persist(key) },
	"Stamp":        func(b both, key string) { b.stamp(key) },
	"Sweep":        func(b both, key string) { b.sweep(1) },
	"Sweep of 0":   func(b both, key string) { b.sweep(0) },
	"Len":          func(b both, key string) { b.len() },
	"Keys":         func(b both, key string) { b.keys() },
	"Sample":       func(b both, key string) { b.sample(true, 99) },
	"Scan":         func(b both, key string) { b.scan(1, 3) },
	"Tick":         func(b both, key string) { b.tick(b.m.clock + 1) },
	"Touched":      func(b both, key string) { b.touched() },
	"Steps":        func(b both, key string) { b.steps() },
	"Clear":        func(b both, key string) { b.clear() },
}

// Each call is done to a key of each sort, in spaces whose dictionaries are moving in all sorts of ways; then both are
// looked at as they lie.
func TestP13_EachCallAsItLies(t *testing.T) {
	for name, call := range calls {
		t.Run(name, func(t *testing.T) {
			for n := 3; n < 40; n += 3 {
				for _, key := range []string{"none", "plain", "limited", "past"} {
					b := newBoth(t, api.Config{Seed: uint64(n) * 77})
					b.text("plain", "v")
					b.text("limited", "v")
					b.setDeadline("limited", 50)
					b.text("past", "v")
					b.setDeadline("past", 2)
					for i := range n {
						b.text(number(i), "v")
						b.setDeadline(number(i), 1+int64(i)/2)
					}
					b.tick(2)
					b.touched()
					call(b, key)
					b.lie()
					call(b, key)
					b.end()
				}
			}
		})
	}
}

// emptied makes a space without keys whose main dictionary is moving still, with many buckets left: the keys expired in
// such an order that the last ones stood in its first buckets, so that each of their steps moved a chain and passed
// little. (To delete them would be two steps each.)
func emptied(t *testing.T, n int) both {
	t.Helper()
	b := newBoth(t, api.Config{Seed: uint64(n)})
	for i := range n {
		b.text(number(i), "v")
	}
	for moving(b) {
		b.look("none")
	}
	var keys []string
	old, _, _ := b.m.main.Sizes()
	for i := range old {
		keys = append(keys, b.m.main.Bucket(0, i)...)
	}
	slices.Reverse(keys)
	slices.Reverse(keys[n-old/8:]) // it moves from here on
	for i, key := range keys {
		b.setDeadline(key, 1+int64(i))
	}
	b.tick(int64(n))
	b.sweep(n)
	if old, _, at := b.m.main.Sizes(); !moving(b) || old-at <= 40 || len(b.m.stored) > 0 {
		t.Fatalf("of %d keys: %d buckets, at %d", n, old, at)
	}
	b.touched()
	b.steps()
	return b
}

func moving(b both) bool {
	_, young, _ := b.m.main.Sizes()
	return young > 0
}

// Which calls do a step of a dictionary without keys is seen by the keys that come then.
func TestP13_EachCallWithoutKeys(t *testing.T) {
	for name, call := range calls {
		t.Run(name, func(t *testing.T) {
			for n := 90; n < 128; n += 9 {
				b := emptied(t, n)
				call(b, "none")
				b.text("first", "v")
				b.text("second", "v") // with one alone there is but one to be sampled
				b.end()
			}
		})
	}
}

// A key that is longer than any may be is met as others are.
func TestP13_3_TooLongIsMet(t *testing.T) {
	for name, meet := range calls {
		b := newBoth(t, api.Config{Seed: 2})
		for i := range 9 {
			b.text(number(i), "v")
			b.setDeadline(number(i), 9)
		}
		if !moving(b) {
			t.Fatal("it is not moving")
		}
		t.Run(name, func(t *testing.T) {
			b.t = t
			meet(b, tooLong)
			b.lie()
			meet(b, tooLong)
			b.end()
		})
	}
}

// What is handed out is the caller's: no later answer shows what is written there, or behind its end.
func TestP13_MemoryOfItsOwn(t *testing.T) {
	b := newBoth(t, api.Config{Seed: 5})
	for i, kind := range kinds {
		b.put("k"+strconv.Itoa(i), filled(kind, 3))
		b.setDeadline("k"+strconv.Itoa(i), 4+int64(i))
		b.text("l"+strconv.Itoa(i), "v")
	}
	spoil := func(l []string) {
		for i := range l[:cap(l)] {
			l[:cap(l)][i] = "spoilt"
		}
	}
	for now := range int64(10) {
		spoil(b.s.Keys())
		b.m.allExpire()
		_, keys := b.s.Scan(0, 100)
		spoil(keys)
		for _, e := range b.s.Stored() {
			spoil(e.Value.Items)
			clear(e.Value.Pairs[:cap(e.Value.Pairs)])
			clear(e.Value.Ranks[:cap(e.Value.Ranks)])
		}
		clear(b.s.Stored())
		b.hold()
		spoil(b.s.Touched())
		b.m.forgetTouched()
		steps := b.s.Steps()
		clear(steps[:cap(steps)])
		b.m.forgetSteps()
		b.evict("l" + strconv.FormatInt(now, 10))
		b.tick(now)
		b.len()
		if now%3 == 0 {
			b.touched()
			b.steps()
		}
		b.lie()
	}
}

// What was told before is not changed by what comes later.
func TestP13_14_WhatWasToldStays(t *testing.T) {
	s := space(t, 0)
	for i := range 9 {
		puts(t, s, number(i))
	}
	for i := range 5 {
		s.Evict(number(i))
	}
	steps, touched, keys, stored := s.Steps(), s.Touched(), s.Keys(), s.Stored()
	was := fmt.Sprint(steps, touched, keys, stored)
	for i := range 9 {
		s.Evict(number(i))
		puts(t, s, "other"+strconv.Itoa(i))
	}
	s.Steps()
	s.Touched()
	if now := fmt.Sprint(steps, touched, keys, stored); now != was {
		t.Errorf("%s, and it was %s", now, was)
	}
}
