package ontexts

import (
	"slices"
	"strconv"
	"strings"
	"testing"

	"pantry/api"
	"pantry/draw"
	"pantry/keyspace"
	"pantry/value"
	"pantry/verbs"
)

var (
	long    = strings.Repeat("l", 1048576)
	tooLong = long + "l"
)

// others are the kinds that are no texts.
var others = []int{api.KdList, api.KdRecord, api.KdFlock, api.KdRanks}

// play does commands in one space.
type play struct {
	t *testing.T
	s *keyspace.Space
}

func newPlay(t *testing.T) play {
	t.Helper()
	return play{t, space(t, 7)}
}

// split makes words of a line; two quotes are the empty word.
func split(command string) []string {
	words := strings.Fields(command)
	for i, w := range words {
		if w == `""` {
			words[i] = ""
		}
	}
	return words
}

// do does a command; want is its reply in short, and behind it | and each effect: = is the command itself.
func (p play) do(command, want string) {
	p.t.Helper()
	got, ok := Do(p.s, nil, split(command))
	want = strings.ReplaceAll(want, "| =", "| "+brief(split(command)))
	if !ok || line(got) != want {
		p.t.Errorf("%s: %s, %v, want %s", command, line(got), ok, want)
	}
}

// rows does one command a line, each with what it comes to behind =>.
func (p play) rows(script string) {
	p.t.Helper()
	for _, row := range strings.Split(strings.TrimSpace(script), "\n") {
		command, want, _ := strings.Cut(row, "=>")
		p.do(strings.TrimSpace(command), strings.TrimSpace(want))
	}
}

func (p play) tick(now int64) {
	p.t.Helper()
	if code := p.s.Tick(now); code != api.OK || p.s.Now() != now {
		p.t.Fatalf("Tick(%d): %d, Now %d", now, code, p.s.Now())
	}
}

// holds says what a key holds, and its deadline (0: none), as it lies.
func (p play) holds(key, text string, deadline int64) {
	p.t.Helper()
	for _, x := range p.s.Stored() {
		if x.Key == key {
			if x.Value.Kind != api.KdText || x.Value.Text != text || x.Deadline != deadline {
				p.t.Errorf("%s: %d %q, deadline %d, want %q, %d", key, x.Value.Kind, clip(x.Value.Text), x.Deadline, clip(text), deadline)
			}
			return
		}
	}
	p.t.Errorf("%s is not stored, want %q", key, clip(text))
}

func (p play) holdsNot(key string) {
	p.t.Helper()
	if slices.ContainsFunc(p.s.Stored(), func(x api.Stored) bool { return x.Key == key }) {
		p.t.Errorf("%s is stored", key)
	}
}

// untouched says that no key was touched, and none went by a step, since it was asked last.
func (p play) untouched(what string) {
	p.t.Helper()
	if got := p.s.Touched(); len(got) != 0 {
		p.t.Errorf("%s: touched: %q", what, got)
	}
	if got := p.s.Steps(); len(got) != 0 {
		p.t.Errorf("%s: steps: %v", what, got)
	}
}

func TestP19_1_ChapterExample1(t *testing.T) {
	p := newPlay(t)
	p.rows(`
SET k abc => +OK | =
GET k => $abc
SET k x NX => null
SET k x XX GET => $abc | =
GET k => $x
SET l x GET => null | =
SETNX k y => :0
GETSET k z => $x | =
MGET k nokey => [$z null]
GETDEL k => $z | =
GET k => null
`)
}

func TestP19_1_ChapterExample2(t *testing.T) {
	p := newPlay(t)
	p.tick(1000)
	p.rows(`SET k v EX 5 => +OK | SET k v PXAT 6000`)
	p.holds("k", "v", 6000)
	p.rows(`
SET k v PX 0 => TxExpire
SET k v EX -1 => TxExpire
SET k v EX 9007199254740 => TxExpire
SET k v PXAT 1000 => +OK | DEL k
GET k => null
SET k v PXAT 1000 => +OK
SET k v EX x => TxInt
SET k v EX => TxSyntax
SET k v EX 5 KEEPTTL => TxSyntax
SET k v NX XX => TxSyntax
SET k v NX NX => TxSyntax
SET k v z => TxSyntax
SET k v EX x z => TxInt
`)
	p.holdsNot("k")
}

func TestP19_1_ChapterExample3(t *testing.T) {
	p := newPlay(t)
	p.s.Put("l", other(api.KdList))
	p.rows(`
INCR n => :1 | =
INCRBY n 9223372036854775807 => TxOver
DECRBY n -9223372036854775808 => TxOver
DECRBY n 2 => :-1 | =
DECRBY n -9223372036854775808 => :9223372036854775807 | =
SET n 01 => +OK | =
INCR n => TxInt
INCRBY n x => TxInt
INCRBY l x => TxInt
`)
}

func TestP19_1_ChapterExample4(t *testing.T) {
	newPlay(t).rows(`
INCRBYFLOAT f 0.1 => $0.1 | =
INCRBYFLOAT f 2e1 => $20.1 | =
INCRBYFLOAT f inf => $inf | =
INCRBYFLOAT f -inf => TxFloatOut
GET f => $inf
`)
}

func TestP19_1_ChapterExample5(t *testing.T) {
	p := newPlay(t)
	p.rows(`
APPEND a ab => :2 | =
APPEND a "" => :2 | =
SETRANGE a 4 x => :5 | =
SETRANGE a 0 "" => :5
SETRANGE a -1 x => TxInt
SETRANGE a 1048576 x => TxLong
GETRANGE a -1 -1 => $x
`)
	p.holds("a", "ab\x00\x00x", 0)
	p.rows(`
SETBIT a 7 1 => :1 | =
GETBIT a 1073741824 => TxInt
SETBIT a 8388608 0 => TxLong
BITCOUNT a 0 => TxSyntax
`)
	p.holds("a", "ab\x00\x00x", 0)
}

// wordsOf is a command of so many words that its row lets in: the name, and words that any command takes.
func wordsOf(name string, n int) []string {
	words := []string{name, "k"}
	for len(words) < n {
		words = append(words, "1")
	}
	return words[:n]
}

func least(arity int) int { return max(arity, -arity) }

func TestP19_1_NoSpace(t *testing.T) {
	r := draw.New([]uint64{1, 2})
	for _, name := range names {
		got, ok := Do(nil, r, wordsOf(name, least(commands[name])))
		if ok || !sameResult(got, api.Result{}) {
			t.Errorf("%s of no space: %s, %v", name, line(got), ok)
		}
	}
	if got, ok := Do(nil, nil, nil); ok || !sameResult(got, api.Result{}) || r.Left() != 2 {
		t.Errorf("nothing of no space: %s, %v; %d draws left", line(got), ok, r.Left())
	}
}

// wide is a space in which every command would find something to change, or to take away.
func wide(t *testing.T) play {
	t.Helper()
	p := newPlay(t)
	p.s.Put("k", value.Text("1"))
	p.s.Put("mortal", value.Text("22"))
	p.s.SetDeadline("mortal", 5000)
	p.s.Put("past", value.Text("333"))
	p.s.SetDeadline("past", 10)
	p.s.Put("l", other(api.KdList))
	p.tick(1000)
	p.s.Touched()
	return p
}

// asItWas says that nothing was done to a wide space.
func (p play) asItWas(what string) {
	p.t.Helper()
	fresh := wide(p.t)
	if got, want := p.s.Stored(), fresh.s.Stored(); !slices.EqualFunc(got, want, sameStored) {
		p.t.Errorf("%s: stored: %s, want %s", what, showStored(got), showStored(want))
	}
	p.untouched(what)
	for _, key := range []string{"k", "mortal", "l"} {
		got, _ := p.s.Stamp(key)
		if want, _ := fresh.s.Stamp(key); got != want {
			p.t.Errorf("%s: Stamp(%s): %d, want %d", what, key, got, want)
		}
	}
}

// none says that words are no command of this layer.
func none(t *testing.T, words []string) {
	t.Helper()
	p := wide(t)
	got, ok := Do(p.s, draw.New(nil), words)
	if ok || !sameResult(got, api.Result{}) {
		t.Errorf("%s: %s, %v, want nothing and false", brief(words), line(got), ok)
	}
	p.asItWas(brief(words))
}

func TestP19_1_WordsThatAreRefused(t *testing.T) {
	none(t, nil)
	none(t, []string{})
	for _, name := range []string{"", " ", "GET ", " GET", "GE", "GETT", "NOPE", "NX", "ＧＥＴ", "\x00"} {
		for n := 1; n < 6; n++ {
			none(t, wordsOf(name, n))
		}
	}
	for _, name := range names {
		arity := commands[name]
		for n := 1; n < least(arity); n++ {
			none(t, wordsOf(name, n))
		}
		if arity > 0 {
			none(t, wordsOf(name, arity+1))
			none(t, wordsOf(name, arity+2))
		}
	}
}

func TestP19_1_WordsThatAreTooLong(t *testing.T) {
	for _, name := range names {
		n := least(commands[name])
		for i := 1; i < n; i++ {
			words := wordsOf(name, n)
			words[i] = tooLong
			none(t, words)
		}
	}
	none(t, []string{tooLong, "k"})
	none(t, append([]string{"MGET"}, slices.Repeat([]string{"k"}, 1024)...))
	none(t, append([]string{"MSET"}, slices.Repeat([]string{"k"}, 1024)...))
	none(t, []string{"MGET", long, long, long, long[:len(long)-3]})
	none(t, []string{"MSET", "a", long, "b", long, "c", long, "d", long[:len(long)-7]})
}

// As long, and as many, as may be.
func TestP19_1_WordsAsGreatAsMayBe(t *testing.T) {
	p := newPlay(t)
	got, ok := Do(p.s, nil, append([]string{"MGET"}, slices.Repeat([]string{"k"}, 1023)...))
	if !ok || len(got.Reply.List) != 1023 {
		t.Errorf("MGET of 1023 keys: %d replies, %v", len(got.Reply.List), ok)
	}
	words := []string{"MSET"}
	for i := range 511 {
		words = append(words, "k"+strconv.Itoa(i), strconv.Itoa(i))
	}
	got, ok = Do(p.s, nil, words)
	if !ok || short(got.Reply) != "+OK" || p.s.Len() != 511 || len(got.Effects) != 1 || len(got.Effects[0]) != 1023 {
		t.Errorf("MSET of 511 keys: %s, %v, %d keys", short(got.Reply), ok, p.s.Len())
	}
	words = []string{"MSET", "a", long, "b", long, "c", long, "d", long[:len(long)-8]}
	got, ok = Do(p.s, nil, words)
	if !ok || short(got.Reply) != "+OK" {
		t.Errorf("MSET of 2^22 bytes: %s, %v", short(got.Reply), ok)
	}
	p.holds("a", long, 0)
	p.holds("d", long[:len(long)-8], 0)
	if got, ok = Do(p.s, nil, []string{"SET", long, long}); !ok || line(got) != "+OK | "+brief([]string{"SET", long, long}) {
		t.Errorf("SET of a key and a text of 2^20 bytes: %s, %v", line(got), ok)
	}
	p.holds(long, long, 0)
	if got, ok = Do(p.s, nil, []string{"GET", long}); !ok || !sameReply(got.Reply, bulkOf(long)) {
		t.Errorf("GET of a key of 2^20 bytes: %s, %v", line(got), ok)
	}
}

func TestP19_1_CommandsOfOthers(t *testing.T) {
	seen := 0
	for _, name := range verbs.Names() {
		if _, ours := commands[name]; ours {
			seen++
			continue
		}
		v, _ := verbs.Find(name)
		for n := least(v.Arity); n < least(v.Arity)+4; n++ {
			words := wordsOf(name, max(n, 2))[:n]
			none(t, words)
			words[0] = strings.ToLower(name)
			none(t, words)
		}
	}
	if seen != 20 || len(commands) != 20 {
		t.Errorf("of the layer's 20 commands %d are in the table, %d are told here", seen, len(commands))
	}
}

func TestP19_1_EachCommandIsDone(t *testing.T) {
	for _, name := range names {
		for _, n := range []int{least(commands[name]), least(commands[name]) + 1, least(commands[name]) + 2} {
			if commands[name] > 0 && n > commands[name] {
				continue
			}
			for _, spelt := range []string{name, strings.ToLower(name), name[:1] + strings.ToLower(name[1:]), strings.ToLower(name[:2]) + name[2:]} {
				b := newBoth(t, 7)
				b.each(func(s *keyspace.Space) { s.Put("k", value.Text("1")) })
				words := wordsOf(name, n)
				words[0] = spelt
				if got, ok := Do(b.got, nil, words); !ok || got.Reply.Kind == 0 {
					t.Errorf("%s: %s, %v", brief(words), line(got), ok)
				}
				asSpelled(b.want, words)
				b.hold(brief(words))
			}
		}
	}
}

func TestP19_1_Capitals(t *testing.T) {
	p := newPlay(t)
	p.tick(5)
	p.rows(`
set k 1 => +OK | =
Get k => $1
SeT k 2 nX => null
SeT k 2 Xx gEt => $1 | =
sEt k 3 eX 1 => +OK | SET k 3 PXAT 1005
set k 4 keepttl => +OK | =
set k 4 KeepTtl => +OK | =
set k 4 pX 1 => +OK | SET k 4 PXAT 6
set k 4 exAT 1 => +OK | SET k 4 PXAT 1000
set k 4 pxat 5 => +OK | DEL k
set k 4 pxat 6 => +OK | SET k 4 PXAT 6
incr k => :5 | =
dEcR k => :4 | =
incrBY k 3 => :7 | =
decrBY k 3 => :4 | =
incrbyfloat k 1.5 => $5.5 | =
append k 0 => :4 | =
strlen k => :4
getrange k 1 2 => $.5
setrange k 0 a => :4 | =
getbit k 7 => :1
setbit k 7 0 => :1 | =
bitcount k 0 0 => :2
setnx k x => :0
getset k x => $` + "`.50" + ` | =
getdel k => $x | =
mset k 1 l 2 => +OK | =
msetnx k 1 m 2 => :0
mget k l m => [$1 $2 null]
`)
	p.holds("k", "1", 0)
}

// Words that are capitals of the options only where more than ASCII has capitals, or that hold more.
func TestP19_1_NoOptions(t *testing.T) {
	for _, w := range []string{"", " ", "N", "NX ", " NX", "NXX", "nx\x00", "ⁿx", "XY", "GETT", "GE", "KEEP", "KEEPTT", "KEEPTTLS", "ＥＸ", "eх", "EXA", "EXATT", "P", "PXA", "PXATS", "PEX", "TTL", "PERSIST", "5", "-1", "k", "EX5", "EX=5", "\u212aEEPTTL"} {
		for _, behind := range [][]string{{w}, {w, "5"}, {"NX", w}, {"EX", "5", w}, {"GET", w, "XX"}} {
			p := wide(t)
			words := append([]string{"SET", "k", "v"}, behind...)
			got, ok := Do(p.s, nil, words)
			if !ok || line(got) != "TxSyntax" {
				t.Errorf("%s: %s, %v, want TxSyntax", brief(words), line(got), ok)
			}
			p.asItWas(brief(words))
		}
	}
}

func TestP19_1_NothingIsDrawn(t *testing.T) {
	for _, name := range names {
		words := wordsOf(name, least(commands[name]))
		r := draw.New([]uint64{7, 8, 9})
		got, ok := Do(wide(t).s, r, words)
		other, otherOk := Do(wide(t).s, nil, words)
		if r.Left() != 3 || r.Next() != 7 || !ok || !otherOk || !sameResult(got, other) {
			t.Errorf("%s: %s with a source, %s without, %d draws left", name, line(got), line(other), r.Left())
		}
	}
}

// Each row has several errors; the first one is told. The key k holds 1, l a list, past is past, none is not there.
func TestP19_1_TheFirstErrorIsTold(t *testing.T) {
	for _, row := range strings.Split(strings.TrimSpace(`
GET l => TxKind
STRLEN l => TxKind
GETSET l x => TxKind
GETDEL l => TxKind
APPEND l x => TxKind
SET l v GET => TxKind
SET l v GET NX => TxKind
SET l v GET XX PXAT 1 => TxKind
SET l v GET GET => TxSyntax
SET l v GET EX x => TxInt
SET l v GET EX 0 => TxExpire
SET k v EX => TxSyntax
SET k v EX x z => TxInt
SET k v EX 0 z => TxExpire
SET k v z EX x => TxSyntax
SET k v z EX 0 => TxSyntax
SET k v EX x EX 0 => TxInt
SET k v EX 0 EX x => TxExpire
SET k v EX 5 PX x => TxSyntax
SET k v KEEPTTL PX 0 => TxSyntax
SET k v NX XX EX x => TxSyntax
SET k v EX x NX XX => TxInt
SET k v EX NX XX => TxInt
SET k v EX EX => TxInt
SET k v PX PXAT 5 => TxInt
SET k v NX EX => TxSyntax
SET k v EX 0 GET GET => TxExpire
SET k v PX 9223372036854775808 => TxInt
SET k v PX 9223372036854775807 => TxExpire
SET k v PX -9223372036854775808 => TxExpire
SET k v PX -9223372036854775809 => TxInt
MSET k 1 l => TxSyntax
MSET k 1 past 2 l => TxSyntax
MSETNX k 1 l => TxSyntax
MSETNX past 1 l => TxSyntax
INCR l => TxKind
DECR l => TxKind
INCRBY l x => TxInt
INCRBY l 1 => TxKind
DECRBY l 01 => TxInt
DECRBY l -9223372036854775808 => TxKind
INCRBY l 9223372036854775808 => TxInt
INCRBYFLOAT l x => TxFloat
INCRBYFLOAT l 1e400 => TxFloat
INCRBYFLOAT l nan => TxFloat
INCRBYFLOAT l inf => TxKind
INCRBYFLOAT past x => TxFloat
GETRANGE l x 1 => TxInt
GETRANGE l 1 x => TxInt
GETRANGE l 1 1 => TxKind
SETRANGE l x "" => TxInt
SETRANGE l -1 "" => TxInt
SETRANGE l 0 "" => TxKind
SETRANGE l 9223372036854775807 "" => TxKind
SETRANGE l 9223372036854775807 x => TxKind
SETRANGE l 1048576 x => TxKind
SETRANGE k 9223372036854775808 x => TxInt
SETRANGE k 9223372036854775807 x => TxLong
GETBIT l x => TxInt
GETBIT l -1 => TxInt
GETBIT l 1073741824 => TxInt
GETBIT l 1073741823 => TxKind
SETBIT l 0 2 => TxInt
SETBIT l x 0 => TxInt
SETBIT l 0 1 => TxKind
SETBIT l 8388608 2 => TxInt
SETBIT l 8388608 1 => TxKind
SETBIT k 8388608 2 => TxInt
SETBIT k 8388608 -1 => TxInt
SETBIT k 1073741823 1 => TxLong
SETBIT k 1073741824 1 => TxInt
BITCOUNT l x => TxSyntax
BITCOUNT l 0 => TxSyntax
BITCOUNT l x y z => TxSyntax
BITCOUNT l x 0 => TxInt
BITCOUNT l 0 x => TxInt
BITCOUNT l 0 0 => TxKind
BITCOUNT l => TxKind
BITCOUNT past 0 => TxSyntax
`), "\n") {
		p := wide(t)
		p.rows(row)
		p.asItWas(row)
	}
}

// What is wrong with the words is told before the key is looked at: one that is past is stored still. What is wrong with
// what it holds is told of what is there.
func TestP19_1_WordsAheadOfTheKey(t *testing.T) {
	for _, command := range []string{
		"SET past v z", "SET past v EX x", "SET past v EX 0", "SET past v EX", "MSET past", "MSET past 1 k", "MSETNX past 1 k",
		"INCRBY past x", "DECRBY past x", "INCRBYFLOAT past x", "GETRANGE past x 1", "GETRANGE past 1 x", "SETRANGE past x v",
		"SETRANGE past -1 v", "GETBIT past -1", "SETBIT past -1 0", "SETBIT past 0 2", "BITCOUNT past 0", "BITCOUNT past 0 x", "BITCOUNT past 1 1 1",
	} {
		p := wide(t)
		Do(p.s, nil, split(command))
		p.asItWas(command)
	}
	for _, command := range []string{"SETRANGE past 1048576 x => TxLong", "SETBIT past 8388608 0 => TxLong"} {
		p := wide(t)
		p.rows(command)
		p.holdsNot("past")
		if got := p.s.Steps(); !slices.Equal(got, []api.Step{{Kind: api.StExpired, Key: "past"}}) {
			t.Errorf("%s: steps: %v", command, got)
		}
	}
}

func TestP19_1_OtherKinds(t *testing.T) {
	const script = `
GET l => TxKind
SETNX l x => :0
GETSET l x => TxKind
GETDEL l => TxKind
MGET l k l => [null $1 null]
MSETNX a 1 l 2 => :0
MSETNX l 1 a 2 => :0
APPEND l x => TxKind
APPEND l "" => TxKind
STRLEN l => TxKind
INCR l => TxKind
DECR l => TxKind
INCRBY l 1 => TxKind
DECRBY l 1 => TxKind
INCRBYFLOAT l 1 => TxKind
GETRANGE l 0 0 => TxKind
SETRANGE l 0 x => TxKind
SETRANGE l 0 "" => TxKind
GETBIT l 0 => TxKind
SETBIT l 0 1 => TxKind
BITCOUNT l => TxKind
BITCOUNT l 0 0 => TxKind
SET l x GET => TxKind
SET l x GET NX => TxKind
SET l x GET PXAT 1 => TxKind
SET l x NX => null
`
	for _, kind := range others {
		p := newPlay(t)
		p.s.Put("l", other(kind))
		p.s.SetDeadline("l", 77)
		p.s.Put("k", value.Text("1"))
		p.s.Touched()
		before := p.s.Stored()
		p.rows(script)
		if !slices.EqualFunc(before, p.s.Stored(), sameStored) {
			t.Errorf("kind %d: stored: %s, want %s", kind, showStored(p.s.Stored()), showStored(before))
		}
		p.untouched("kind " + strconv.Itoa(kind))
		for _, row := range []string{"SET l x => +OK | =", "SET l x XX => +OK | =", "MSET a 1 l x => +OK | =", "SET l x PX 5 => +OK | SET l x PXAT 5", "SET l x KEEPTTL => +OK | ="} {
			p.s.Put("l", other(kind))
			p.rows(row)
			if v, _ := p.s.Look("l"); v.Kind() != api.KdText || v.Plain().Text != "x" {
				t.Errorf("kind %d: %s: kind %d", kind, row, v.Kind())
			}
		}
		p.s.Put("l", other(kind))
		p.s.Tick(9)
		p.rows("SET l x PXAT 9 => +OK | DEL l")
		p.holdsNot("l")
	}
}

// A key that is past goes when it is looked at, and is asked as one that is not there.
func TestP19_1_PastKeys(t *testing.T) {
	for _, row := range strings.Split(strings.TrimSpace(`
GET past => null
SET past v => +OK | =
SET past v NX => +OK | =
SET past v XX => null
SET past v GET => null | =
SET past v KEEPTTL => +OK | =
SET past v PXAT 5 => +OK
SET past v PXAT 1001 => +OK | SET past v PXAT 1001
SETNX past v => :1 | =
GETSET past v => null | =
GETDEL past => null
MGET past k past => [null $1 null]
MSET past v => +OK | =
MSETNX past v => :1 | =
MSETNX k v past v => :0
APPEND past v => :1 | =
STRLEN past => :0
INCR past => :1 | =
DECR past => :-1 | =
INCRBY past 5 => :5 | =
DECRBY past 5 => :-5 | =
INCRBYFLOAT past 5 => $5 | =
GETRANGE past 0 -1 => $
SETRANGE past 1 v => :2 | =
SETRANGE past 1 "" => :0
GETBIT past 2 => :0
SETBIT past 2 1 => :0 | =
BITCOUNT past => :0
`), "\n") {
		p := wide(t)
		p.rows(row)
		if got := p.s.Steps(); !slices.Equal(got, []api.Step{{Kind: api.StExpired, Key: "past"}}) {
			t.Errorf("%s: steps: %v", row, got)
		}
		if at, ok := p.s.Deadline("past"); ok && at != 1001 {
			t.Errorf("%s: the deadline %d of the key that went", row, at)
		}
		if got := p.s.Touched(); !slices.Equal(got, []string{"past"}) {
			t.Errorf("%s: touched: %q", row, got)
		}
	}
	// At its deadline itself a key is past; one millisecond ahead of it it is there.
	p := newPlay(t)
	p.rows("SET k abc PXAT 10 => +OK | SET k abc PXAT 10")
	p.tick(9)
	p.rows("GET k => $abc")
	p.tick(10)
	p.rows("GET k => null")
}

// What is handed out is new memory, and what was handed in may be written over.
func TestP19_1_MemoryOfItsOwn(t *testing.T) {
	for _, command := range []string{
		"SET k v", "SET k v PX 5", "SET k v KEEPTTL", "SET mortal v PXAT 1", "SETNX a v", "GETSET k v", "GETDEL k", "MSET k 1 a 2",
		"MSETNX a 1 b 2", "APPEND k v", "INCR k", "DECR k", "INCRBY k 1", "DECRBY k 1", "INCRBYFLOAT k 1", "SETRANGE k 0 v", "SETBIT k 0 1", "MGET k mortal l",
	} {
		p := wide(t)
		words := append(split(command), "room")[:len(split(command))]
		got, _ := Do(p.s, nil, words)
		want := line(got)
		stored := p.s.Stored()
		for i := range words {
			words[i] = "other"
		}
		_ = append(words, "behind")
		if line(got) != want {
			t.Errorf("%s: %s, want %s, once the words are written over", command, line(got), want)
		}
		for _, e := range got.Effects {
			for i := range e {
				e[i] = "another"
			}
			_ = append(e, "behind")
		}
		for i := range got.Reply.List {
			got.Reply.List[i] = api.Reply{}
		}
		if !slices.EqualFunc(stored, p.s.Stored(), sameStored) || slices.Contains(words, "another") {
			t.Errorf("%s: %s, want %s; words %q", command, showStored(p.s.Stored()), showStored(stored), words)
		}
	}
}

func TestP19_1_TwoAnswersShareNothing(t *testing.T) {
	p := newPlay(t)
	words := []string{"MSET", "a", "1", "b", "2"}
	one, _ := Do(p.s, nil, words)
	two, _ := Do(p.s, nil, words)
	one.Effects[0][1] = "x"
	one.Effects[0] = nil
	if line(two) != "+OK | MSET a 1 b 2" {
		t.Errorf("the second answer: %s", line(two))
	}
	three, _ := Do(p.s, nil, []string{"MGET", "a", "b"})
	four, _ := Do(p.s, nil, []string{"MGET", "a", "b"})
	three.Reply.List[0].Text = "x"
	if line(four) != "[$1 $2]" {
		t.Errorf("the second answer: %s", line(four))
	}
}
