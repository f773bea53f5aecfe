package ontexts

import (
	"fmt"
	"math/rand/v2"
	"slices"
	"strconv"
	"strings"
	"testing"

	"pantry/api"
	"pantry/keyspace"
	"pantry/patch"
	"pantry/value"
)

// done does a command of the layer and tells its result.
func (p play) done(words ...string) api.Result {
	p.t.Helper()
	got, ok := Do(p.s, nil, words)
	if !ok {
		p.t.Fatalf("%s: false", brief(words))
	}
	return got
}

// gets says what GET tells of a key.
func (p play) gets(key, text string) {
	p.t.Helper()
	if got := p.done("GET", key); !sameResult(got, only(bulkOf(text))) {
		p.t.Errorf("GET %s: %s, want %s", clip(key), line(got), clip(text))
	}
}

// starts are the states in which a key may be ahead of a command.
var starts = []func(s *keyspace.Space){
	func(s *keyspace.Space) {},
	func(s *keyspace.Space) { s.Put("k", value.Text("1")) },
	func(s *keyspace.Space) { s.Put("k", value.Text("")); s.SetDeadline("k", 5000) },
	func(s *keyspace.Space) { s.Put("k", other(api.KdFlock)) },
	func(s *keyspace.Space) { s.Put("k", value.Text("1")); s.SetDeadline("k", 7) },
}

func TestP19_2_GetTellsWhatWasSet(t *testing.T) {
	for i, start := range starts {
		for _, text := range []string{"", "v", "0", "\x00\r\n", "inf", strings.Repeat("ab", 5000)} {
			for _, x := range [][]string{
				{"SET", "k", text}, {"SET", "k", text, "NX"}, {"SET", "k", text, "XX"}, {"SET", "k", text, "GET"}, {"SET", "k", text, "KEEPTTL"},
				{"SET", "k", text, "EX", "1"}, {"SET", "k", text, "PX", "1"}, {"SET", "k", text, "EXAT", "2"}, {"SET", "k", text, "PXAT", "1001"},
				{"SETNX", "k", text}, {"GETSET", "k", text}, {"MSET", "k", text}, {"MSET", "j", "w", "k", "x", "k", text}, {"MSETNX", "k", "x", "j", "w", "k", text},
			} {
				p := newPlay(t)
				start(p.s)
				p.tick(1000)
				got := p.done(x...)
				if got.Reply.Kind == api.RpError || len(got.Effects) == 0 { // it was not done
					if i == 0 && !slices.Contains(x, "XX") || (i == 1 || i == 2) && slices.Contains([]string{"SET k v", "SET k v XX", "GETSET k v", "MSET k v"}, brief(x)) {
						t.Errorf("start %d: %s: %s", i, brief(x), line(got))
					}
					continue
				}
				p.gets("k", text)
			}
		}
	}
}

// What the askers tell of GET's text is what patch tells of it, and nothing at all is changed.
func TestP19_2_AskersTellWhatPatchTells(t *testing.T) {
	r := rand.New(rand.NewPCG(2, 19))
	for range 400 {
		p := newPlay(t)
		text := ""
		for range r.IntN(20) {
			text += string([]byte{byte(r.Uint64())})
		}
		if r.IntN(8) > 0 {
			p.s.Put("k", value.Text(text))
			if r.IntN(2) == 0 {
				p.s.SetDeadline("k", 50)
			}
		} else {
			text = ""
		}
		p.s.Touched()
		stored, used := p.s.Stored(), p.s.Used()
		stamp, _ := p.s.Stamp("k")
		i, j := r.Int64N(60)-30, r.Int64N(60)-30
		at := r.Int64N(200)
		bit, _ := patch.Bit(text, at)
		for _, x := range []struct {
			words []string
			want  api.Reply
		}{
			{[]string{"STRLEN", "k"}, integer(len(text))},
			{[]string{"GETRANGE", "k", strconv.FormatInt(i, 10), strconv.FormatInt(j, 10)}, bulkOf(patch.Slice(text, i, j))},
			{[]string{"GETBIT", "k", strconv.FormatInt(at, 10)}, integer(bit)},
			{[]string{"BITCOUNT", "k"}, integer(patch.Ones(text, 0, -1))},
			{[]string{"BITCOUNT", "k", strconv.FormatInt(i, 10), strconv.FormatInt(j, 10)}, integer(patch.Ones(text, i, j))},
		} {
			if got := p.done(x.words...); !sameResult(got, only(x.want)) {
				t.Errorf("%s of %q: %s, want %s", brief(x.words), text, line(got), short(x.want))
			}
		}
		now, _ := p.s.Stamp("k")
		if !slices.EqualFunc(stored, p.s.Stored(), sameStored) || p.s.Used() != used || now != stamp {
			t.Errorf("what was asked changed %s to %s", showStored(stored), showStored(p.s.Stored()))
		}
		p.untouched("askers")
	}
}

// The askers at the greatest text.
func TestP19_2_OfTheGreatestText(t *testing.T) {
	p := newPlay(t)
	p.s.Put("k", value.Text(long))
	p.rows(`
STRLEN k => :1048576
GETRANGE k 1048575 9223372036854775807 => $l
GETRANGE k -1048576 -1048575 => $ll
GETBIT k 8388607 => :0
GETBIT k 8388606 => :0
GETBIT k 8388605 => :1
GETBIT k 8388608 => :0
BITCOUNT k => :4194304
BITCOUNT k 1048575 1048575 => :4
`)
}

// follower is a space that only hears of steps and effects; its clock stands at 0.
type follower struct {
	t *testing.T
	s *keyspace.Space
}

// hears does what a command did, and what went by a step ahead of it.
func (f follower) hears(leader *keyspace.Space, got api.Result) {
	f.t.Helper()
	for _, step := range leader.Steps() {
		f.s.Delete(step.Key)
	}
	for _, e := range got.Effects {
		if e[0] == "DEL" {
			for _, key := range e[1:] {
				f.s.Delete(key)
			}
			continue
		}
		if _, ok := Do(f.s, nil, e); !ok {
			f.t.Errorf("the effect %s is no command", brief(e))
		}
	}
}

func TestP19_3_EffectsDoneOnAnotherSpace(t *testing.T) {
	effects := 0
	for seed := range uint64(250) {
		x := script{rand.New(rand.NewPCG(seed, 93)), []string{"a", "b", "c", "d"}}
		p := play{t, space(t, seed)}
		f := follower{t, space(t, seed+77)}
		for range 150 {
			if x.r.IntN(6) == 0 {
				apart(p.s, f.s, x)
			}
			words := x.command()
			if !x.tidy(words) {
				continue
			}
			got, _ := Do(p.s, nil, words)
			effects += len(got.Effects)
			f.hears(p.s, got)
			if !slices.EqualFunc(p.s.Stored(), f.s.Stored(), sameStored) {
				t.Fatalf("seed %d: %s: the follower stores %s, want %s", seed, brief(words), showStored(f.s.Stored()), showStored(p.s.Stored()))
			}
			if f.s.Now() != 0 || len(f.s.Steps()) != 0 {
				t.Fatalf("seed %d: %s: the follower's clock is %d", seed, brief(words), f.s.Now())
			}
		}
	}
	if effects < 5000 {
		t.Errorf("only %d effects", effects)
	}
}

// apart does something beside the commands in the one space, and, behind what went there by a step, in the other one.
func apart(s, follower *keyspace.Space, x script) {
	key, n := x.key(), x.r.Int64N(150)+1
	follow := func() {}
	switch kind := others[x.r.IntN(4)]; x.r.IntN(5) {
	case 0, 1, 2:
		s.Tick(s.Now() + n)
	case 3:
		s.Put(key, other(kind))
		follow = func() { follower.Put(key, other(kind)) }
	case 4:
		s.SetDeadline(key, s.Now()+n)
		follow = func() { follower.SetDeadline(key, s.Now()+n) }
	}
	for _, step := range s.Steps() {
		follower.Delete(step.Key)
	}
	follow()
}

// The effects hang on no clock: those of times name the millisecond.
func TestP19_3_TimesAreNamed(t *testing.T) {
	for _, now := range []int64{0, 1, 999, 1000, 123456789} {
		for _, options := range []string{"EX 7", "PX 7", "EXAT 200000", "PXAT 200000000", "px 1 get", "NX ex 3", "EX 3 GET NX"} {
			p := newPlay(t)
			p.tick(now)
			f := follower{t, space(t, 5)}
			got := p.done(split("set k v " + options)...)
			f.hears(p.s, got)
			if !slices.EqualFunc(p.s.Stored(), f.s.Stored(), sameStored) || len(p.s.Stored()) != 1 {
				t.Errorf("at %d: %s: the follower stores %s, want %s", now, options, showStored(f.s.Stored()), showStored(p.s.Stored()))
			}
			at, _ := p.s.Deadline("k")
			if want := []string{"SET", "k", "v", "PXAT", strconv.FormatInt(at, 10)}; len(got.Effects) != 1 || !slices.Equal(got.Effects[0], want) {
				t.Errorf("at %d: %s: %s, want the effect %s", now, options, line(got), brief(want))
			}
		}
	}
}

// What did nothing has no effect; what wrote has one, also if the key holds the same then.
func TestP19_3_WhoHasEffects(t *testing.T) {
	p := wide(t)
	p.rows(`
GET k => $1
STRLEN k => :1
MGET k k => [$1 $1]
GETRANGE k 0 0 => $1
GETBIT k 2 => :1
BITCOUNT k => :3
SETNX k 1 => :0
MSETNX k 1 => :0
GETDEL none => null
SETRANGE k 0 "" => :1
SET k 1 NX => null
SET none 1 XX => null
SET none 1 PXAT 1000 => +OK
SET k 1 NX GET => $1
`)
	if got := p.s.Touched(); len(got) != 0 {
		t.Errorf("touched: %q", got)
	}
	for _, command := range []string{"SET k 1", "SET k 1 KEEPTTL", "GETSET k 1", "MSET k 1", "APPEND k \"\"", "INCRBY k 0", "DECRBY k 0", "INCRBYFLOAT k 0", "SETRANGE k 0 1", "SETBIT k 2 1", "SET k 1 GET"} {
		got := p.done(split(command)...)
		if len(got.Effects) != 1 || !slices.Equal(got.Effects[0], split(command)) {
			t.Errorf("%s: %s", command, line(got))
		}
		if touched := p.s.Touched(); !slices.Equal(touched, []string{"k"}) {
			t.Errorf("%s: touched: %q", command, touched)
		}
		p.holds("k", "1", 0)
	}
}

// An error reply leaves all as it was that was not past, and has no effects.
func TestP19_4_ErrorsChangeNothing(t *testing.T) {
	seen := map[string]int{}
	for seed := range uint64(300) {
		x := script{rand.New(rand.NewPCG(seed, 94)), []string{"a", "b", "c", "d"}}
		p := play{t, space(t, seed)}
		for range 150 {
			if x.r.IntN(6) == 0 {
				x.beside()(p.s)
			}
			words := x.command()
			if !x.tidy(words) {
				continue
			}
			p.s.Touched()
			p.s.Steps()
			before, stamps := p.s.Stored(), p.stamps()
			got, _ := Do(p.s, nil, words)
			if got.Reply.Kind != api.RpError {
				continue
			}
			seen[errorName(got.Reply.Text)]++
			touched := p.s.Touched()
			for _, step := range p.s.Steps() {
				i := slices.IndexFunc(before, func(s api.Stored) bool { return s.Key == step.Key })
				if step.Kind != api.StExpired || i < 0 || before[i].Deadline == 0 || before[i].Deadline > p.s.Now() || !slices.Contains(touched, step.Key) {
					t.Fatalf("seed %d: %s: %s, the step %v", seed, brief(words), line(got), step)
				}
				before = slices.Delete(before, i, i+1)
				touched = slices.DeleteFunc(touched, func(key string) bool { return key == step.Key })
			}
			if len(got.Effects) != 0 || len(touched) != 0 || !slices.EqualFunc(before, p.s.Stored(), sameStored) {
				t.Fatalf("seed %d: %s: %s, touched %q, stored %s, want %s", seed, brief(words), line(got), touched, showStored(p.s.Stored()), showStored(before))
			}
			for key, stamp := range p.stamps() {
				if stamps[key] != stamp {
					t.Fatalf("seed %d: %s: %s: the stamp of %s is %d, was %d", seed, brief(words), line(got), key, stamp, stamps[key])
				}
			}
		}
	}
	for _, name := range []string{"TxSyntax", "TxInt", "TxFloat", "TxOver", "TxLong", "TxExpire", "TxKind", "TxFloatOut"} {
		if seen[name] == 0 {
			t.Errorf("no command was answered with %s", name)
		}
	}
}

// stamps are those of the keys that are there; past ones are left alone.
func (p play) stamps() map[string]uint64 {
	m := map[string]uint64{}
	for _, x := range p.s.Stored() {
		if x.Deadline == 0 || x.Deadline > p.s.Now() {
			m[x.Key], _ = p.s.Stamp(x.Key)
		}
	}
	return m
}

var edges = []string{"0", "1", "-1", "2", "7", "-12", "9223372036854775807", "9223372036854775806", "-9223372036854775808", "-9223372036854775807", "4611686018427387904", "-4611686018427387904", "4611686018427387903"}

func TestP19_5_ThereAndBack(t *testing.T) {
	for _, held := range append([]string{""}, edges...) {
		for _, n := range edges {
			for _, order := range [][2]string{{"INCRBY", "DECRBY"}, {"DECRBY", "INCRBY"}} {
				p := newPlay(t)
				want := "0"
				if held != "" {
					p.s.Put("k", value.Text(held))
					want = held
				}
				if p.done(order[0], "k", n).Reply.Kind == api.RpError {
					continue
				}
				back := p.done(order[1], "k", n)
				if back.Reply.Kind == api.RpError {
					t.Errorf("%s %s and back of %q: %s", order[0], n, held, line(back))
					continue
				}
				if short(back.Reply) != ":"+want {
					t.Errorf("%s %s and back of %q: %s", order[0], n, held, line(back))
				}
				p.holds("k", want, 0)
			}
		}
	}
}

// INCR is INCRBY 1, DECR is INCRBY -1: in what they reply, in what is stored and in how it lies.
func TestP19_5_ByOne(t *testing.T) {
	for _, held := range append([]string{"none", "", "x", "01", "9223372036854775808", "-9223372036854775809"}, edges...) {
		for name, by := range map[string][]string{"INCR": {"INCRBY", "k", "1"}, "DECR": {"INCRBY", "k", "-1"}} {
			b := newBoth(t, 3)
			b.each(func(s *keyspace.Space) {
				for i := range 5 {
					s.Put(fmt.Sprint(i), value.Text("x"))
				}
				if held != "none" {
					s.Put("k", value.Text(held))
					s.SetDeadline("k", 9)
				}
			})
			one, _ := Do(b.got, nil, []string{name, "k"})
			two, _ := Do(b.want, nil, by)
			if !sameReply(one.Reply, two.Reply) || len(one.Effects) != len(two.Effects) {
				t.Errorf("%s of %q: %s; %s: %s", name, held, line(one), brief(by), line(two))
			}
			b.lie(name + " of " + held)
		}
	}
}

func TestP19_6_DeadlinesThatStay(t *testing.T) {
	for _, command := range []string{
		"APPEND k 1", `APPEND k ""`, "INCR k", "DECR k", "INCRBY k 5", "DECRBY k 5", "INCRBYFLOAT k 0.5", "SETRANGE k 1 5", `SETRANGE k 1 ""`, "SETBIT k 3 1", "SETBIT k 100 0",
		"SET k 5 KEEPTTL", "SET k 5 XX KEEPTTL", "SET k 5 keepttl GET", "SET k 5 NX", "SETNX k 5", "MSETNX k 5", "GET k", "STRLEN k", "MGET k", "GETRANGE k 0 0", "GETBIT k 0", "BITCOUNT k",
	} {
		for _, at := range []int64{1001, 5000, 9007199254740992} {
			p := newPlay(t)
			p.s.Put("k", value.Text("1"))
			p.s.SetDeadline("k", at)
			p.tick(1000)
			p.done(split(command)...)
			if got, ok := p.s.Deadline("k"); got != at || !ok {
				t.Errorf("%s: the deadline %d, %v, want %d", command, got, ok, at)
			}
			p.tick(at)
			if _, there := p.s.Look("k"); there {
				t.Errorf("%s: the key outlives its deadline %d", command, at)
			}
		}
		p := newPlay(t)
		p.s.Put("k", value.Text("1"))
		p.done(split(command)...)
		if got, ok := p.s.Deadline("k"); ok {
			t.Errorf("%s: the deadline %d of a key that had none", command, got)
		}
	}
}

func TestP19_6_DeadlinesThatGo(t *testing.T) {
	for _, command := range []string{"SET k 5", "SET k 5 XX", "SET k 5 GET", "GETSET k 5", "MSET k 5", "MSET j 1 k 5", "MSET k 4 k 5"} {
		p := newPlay(t)
		p.s.Put("k", value.Text("1"))
		p.s.SetDeadline("k", 5000)
		p.done(split(command)...)
		p.holds("k", "5", 0)
		p.tick(5000)
		p.gets("k", "5")
	}
	p := newPlay(t)
	p.s.Put("k", value.Text("1"))
	p.s.SetDeadline("k", 5000)
	p.rows("GETDEL k => $1 | =\nSETNX k 2 => :1 | =")
	p.holds("k", "2", 0)
}

// A deadline that was kept costs what it cost, and what is written over costs what its text does.
func TestP19_6_WhatItCosts(t *testing.T) {
	p := newPlay(t)
	p.s.Put("k", value.Text("1"))
	p.s.SetDeadline("k", 5000)
	p.rows("APPEND k 23 => :3 | =")
	if got := p.s.Used(); got != 48+1+3+16 {
		t.Errorf("Used: %d", got)
	}
	p.rows("SET k 12345 => +OK | =")
	if got := p.s.Used(); got != 48+1+5 {
		t.Errorf("Used: %d", got)
	}
}
