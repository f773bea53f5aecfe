package ontexts

import (
	"slices"
	"strconv"
	"strings"
	"testing"

	"pantry/api"
	"pantry/keyspace"
	"pantry/value"
)

func TestP19_1_Get(t *testing.T) {
	p := newPlay(t)
	p.rows(`
GET k => null
SET k "" => +OK | =
GET k => $
STRLEN k => :0
SET k abc => +OK | =
GET k => $abc
STRLEN k => :3
STRLEN none => :0
`)
	got, _ := Do(p.s, nil, []string{"SET", "a\r\n\x00ÿ", "\r\n\x00é"})
	if line(got) != "+OK | SET a\r\n\x00ÿ \r\n\x00é" {
		t.Errorf("SET of any bytes: %s", line(got))
	}
	got, _ = Do(p.s, nil, []string{"GET", "a\r\n\x00ÿ"})
	if line(got) != "$\r\n\x00é" {
		t.Errorf("GET of any bytes: %s", line(got))
	}
	p.rows("SET \"\" x => +OK | =\nGET \"\" => $x\nSTRLEN \"\" => :1")
}

func TestP19_1_SetNew(t *testing.T) {
	p := newPlay(t)
	p.rows(`
SETNX k a => :1 | =
SETNX k b => :0
SETNX e "" => :1 | =
SETNX e x => :0
`)
	p.holds("k", "a", 0)
	p.holds("e", "", 0)
}

func TestP19_1_GetAndSet(t *testing.T) {
	p := newPlay(t)
	p.rows(`
GETSET k a => null | =
GETSET k a => $a | =
GETSET k "" => $a | =
GETSET k b => $ | =
GETDEL k => $b | =
GETDEL k => null
SET k "" => +OK | =
GETDEL k => $ | =
`)
	p.holdsNot("k")
}

func TestP19_1_Several(t *testing.T) {
	p := newPlay(t)
	p.s.Put("l", other(api.KdFlock))
	p.rows(`
MGET a => [null]
MSET a 1 => +OK | =
MSET a 1 b "" c 3 => +OK | =
MGET c none a b l a => [$3 null $1 $ null $1]
MSET a 1 a 2 b 5 a 3 => +OK | =
MGET a b => [$3 $5]
MSET a 9 l => TxSyntax
MSET a 9 b => TxSyntax
MSETNX a 9 b => TxSyntax
MSETNX x 1 y => TxSyntax
MSETNX x 1 y 2 a 3 => :0
MSETNX a 1 x 2 => :0
MSETNX x 1 l 2 => :0
MGET x y a => [null null $3]
MSETNX x 1 y 2 x 3 => :1 | =
MGET x y => [$3 $2]
MSET l 7 => +OK | =
GET l => $7
`)
}

// MSETNX looks at each key, also at those behind one that is there, and none goes on being stored that is past.
func TestP19_1_EachKeyIsLookedAt(t *testing.T) {
	for _, command := range []string{"MSETNX k 1 p 2 q 3", "MSETNX p 1 k 2 q 3", "MSETNX q 1 p 1 k 2", "MGET k q p", "MGET p k q"} {
		p := newPlay(t)
		for _, key := range []string{"k", "p", "q", "r"} {
			p.s.Put(key, value.Text("v"))
		}
		for _, key := range []string{"p", "q", "r"} {
			p.s.SetDeadline(key, 5)
		}
		p.tick(5)
		p.s.Touched()
		Do(p.s, nil, split(command))
		if got := p.s.Touched(); !slices.Equal(got, []string{"p", "q"}) {
			t.Errorf("%s: touched: %q", command, got)
		}
		want := []api.Step{{Kind: api.StExpired, Key: "p"}, {Kind: api.StExpired, Key: "q"}}
		if strings.Index(command, "q") < strings.Index(command, "p") {
			slices.Reverse(want)
		}
		if got := p.s.Steps(); !slices.Equal(got, want) {
			t.Errorf("%s: steps: %v, want %v", command, got, want)
		}
	}
}

func TestP19_1_Append(t *testing.T) {
	p := newPlay(t)
	p.rows(`
APPEND k "" => :0 | =
GET k => $
APPEND k ab => :2 | =
APPEND k "" => :2 | =
APPEND k c => :3 | =
GET k => $abc
`)
}

// long texts reach up to the bound, and one byte less, and one more.
func TestP19_1_AsLongAsMayBe(t *testing.T) {
	least1, most := long[:len(long)-1], "a"+long[1:]
	for _, x := range []struct {
		held  string
		words []string
		want  string
		text  string
	}{
		{least1, []string{"APPEND", "k", "z"}, ":1048576", least1 + "z"},
		{long, []string{"APPEND", "k", ""}, ":1048576", long},
		{long, []string{"APPEND", "k", "z"}, "TxLong", ""},
		{least1, []string{"APPEND", "k", "zz"}, "TxLong", ""},
		{"", []string{"APPEND", "k", long}, ":1048576", long},
		{"x", []string{"APPEND", "k", long}, "TxLong", ""},
		{long, []string{"APPEND", "k", long}, "TxLong", ""},
		{"a", []string{"SETRANGE", "k", "1048575", "z"}, ":1048576", "a" + strings.Repeat("\x00", 1048574) + "z"},
		{"a", []string{"SETRANGE", "k", "1048576", "z"}, "TxLong", ""},
		{"a", []string{"SETRANGE", "k", "1048575", "zz"}, "TxLong", ""},
		{"a", []string{"SETRANGE", "k", "1048574", "zz"}, ":1048576", "a" + strings.Repeat("\x00", 1048573) + "zz"},
		{"a", []string{"SETRANGE", "k", "0", long}, ":1048576", long},
		{"a", []string{"SETRANGE", "k", "1", long}, "TxLong", ""},
		{long, []string{"SETRANGE", "k", "0", "a"}, ":1048576", most},
		{long, []string{"SETRANGE", "k", "1048576", "a"}, "TxLong", ""},
		{long, []string{"SETRANGE", "k", "1048576", ""}, ":1048576", ""},
		{"a", []string{"SETRANGE", "k", "9223372036854775807", long}, "TxLong", ""},
		{"a", []string{"SETBIT", "k", "8388607", "1"}, ":0", "a" + strings.Repeat("\x00", 1048574) + "\x01"},
		{"a", []string{"SETBIT", "k", "8388607", "0"}, ":0", "a" + strings.Repeat("\x00", 1048575)},
		{"a", []string{"SETBIT", "k", "8388608", "1"}, "TxLong", ""},
		{"a", []string{"SETBIT", "k", "8388608", "0"}, "TxLong", ""},
		{long, []string{"SETBIT", "k", "8388608", "0"}, "TxLong", ""},
		{"a", []string{"SETBIT", "k", "1073741823", "0"}, "TxLong", ""},
		{long, []string{"SETBIT", "k", "8388607", "1"}, ":0", least1 + "m"},
	} {
		p := newPlay(t)
		p.s.Put("k", value.Text(x.held))
		p.s.SetDeadline("k", 99)
		p.s.Touched()
		got, _ := Do(p.s, nil, x.words)
		if short(got.Reply) != x.want {
			t.Errorf("%s of %d bytes: %s, want %s", brief(x.words), len(x.held), short(got.Reply), x.want)
		}
		if x.text == "" {
			p.holds("k", x.held, 99)
			p.untouched(brief(x.words))
			if len(got.Effects) != 0 {
				t.Errorf("%s: effects %s", brief(x.words), line(got))
			}
			continue
		}
		p.holds("k", x.text, 99)
		if len(got.Effects) != 1 || !slices.Equal(got.Effects[0], x.words) {
			t.Errorf("%s: effects: %d", brief(x.words), len(got.Effects))
		}
	}
}

func TestP19_1_Numbers(t *testing.T) {
	const most, least = "9223372036854775807", "-9223372036854775808"
	for _, x := range [][3]string{ // what is held, the command, and what it comes to
		{"", "INCR k", ":1"}, {"", "DECR k", ":-1"}, {"", "INCRBY k 0", ":0"}, {"", "DECRBY k 0", ":0"},
		{"41", "INCR k", ":42"}, {"-1", "INCR k", ":0"}, {"0", "DECR k", ":-1"},
		{most, "INCR k", "TxOver"}, {most, "DECR k", ":9223372036854775806"}, {least, "DECR k", "TxOver"}, {least, "INCR k", ":-9223372036854775807"},
		{"9223372036854775806", "INCR k", ":" + most}, {"-9223372036854775807", "DECR k", ":" + least},
		{"1", "INCRBY k " + most, "TxOver"}, {"0", "INCRBY k " + most, ":" + most}, {"-1", "INCRBY k " + most, ":9223372036854775806"},
		{least, "INCRBY k " + most, ":-1"}, {most, "INCRBY k " + most, "TxOver"}, {most, "INCRBY k " + least, ":-1"}, {"-1", "INCRBY k " + least, "TxOver"},
		{"0", "INCRBY k " + least, ":" + least}, {least, "INCRBY k " + least, "TxOver"}, {least, "INCRBY k -1", "TxOver"}, {least, "INCRBY k 0", ":" + least},
		{"0", "DECRBY k " + least, "TxOver"}, {"-1", "DECRBY k " + least, ":" + most}, {"1", "DECRBY k " + least, "TxOver"}, {least, "DECRBY k " + least, ":0"},
		{"-2", "DECRBY k " + least, ":9223372036854775806"}, {most, "DECRBY k " + least, "TxOver"}, {"", "DECRBY k " + least, "TxOver"}, {"", "DECRBY k " + most, ":-9223372036854775807"},
		{"-1", "DECRBY k " + most, ":" + least}, {"-2", "DECRBY k " + most, "TxOver"}, {most, "DECRBY k " + most, ":0"}, {most, "DECRBY k -1", "TxOver"}, {most, "DECRBY k 0", ":" + most},
		{"", "INCRBY k 9223372036854775808", "TxInt"}, {"", "DECRBY k 9223372036854775808", "TxInt"}, {"", "INCRBY k -9223372036854775809", "TxInt"}, {"", "DECRBY k -9223372036854775809", "TxInt"},
		{"", "INCRBY k +1", "TxInt"}, {"", "INCRBY k 01", "TxInt"}, {"", "INCRBY k -0", "TxInt"}, {"", "INCRBY k 1.0", "TxInt"}, {"", `INCRBY k ""`, "TxInt"}, {"", "DECRBY k x", "TxInt"},
		{"01", "INCR k", "TxInt"}, {"9223372036854775808", "DECR k", "TxInt"}, {"-9223372036854775809", "INCR k", "TxInt"}, {" 1", "INCR k", "TxInt"}, {"1 ", "DECR k", "TxInt"},
		{"1e1", "INCRBY k 1", "TxInt"}, {"x", "DECRBY k 1", "TxInt"}, {"-0", "INCR k", "TxInt"}, {"+1", "INCR k", "TxInt"}, {long, "INCR k", "TxInt"},
	} {
		p := newPlay(t)
		if x[0] != "" {
			p.s.Put("k", value.Text(x[0]))
			p.s.SetDeadline("k", 50)
			p.s.Touched()
		}
		before := p.s.Stored()
		if strings.HasPrefix(x[2], "Tx") {
			p.do(x[1], x[2])
			p.untouched(x[1])
			if !slices.EqualFunc(before, p.s.Stored(), sameStored) {
				t.Errorf("%s of %s: stored: %s", x[1], clip(x[0]), showStored(p.s.Stored()))
			}
			continue
		}
		p.do(x[1], x[2]+" | =")
		deadline := int64(0)
		if x[0] != "" {
			deadline = 50
		}
		p.holds("k", x[2][1:], deadline)
	}
}

// A key that holds the empty text is there: it holds no number.
func TestP19_1_TheEmptyTextIsNoNumber(t *testing.T) {
	for _, row := range []string{"INCR e => TxInt", "DECR e => TxInt", "INCRBY e 1 => TxInt", "DECRBY e 1 => TxInt", "INCRBYFLOAT e 1 => TxFloat"} {
		p := newPlay(t)
		p.s.Put("e", value.Text(""))
		p.s.Touched()
		p.rows(row)
		p.holds("e", "", 0)
		p.untouched(row)
	}
}

func TestP19_1_Floats(t *testing.T) {
	for _, x := range [][3]string{
		{"", "INCRBYFLOAT k 0", "$0"}, {"", "INCRBYFLOAT k -0", "$0"}, {"", "INCRBYFLOAT k 1e0", "$1"}, {"", "INCRBYFLOAT k +.5", "$0.5"}, {"", "INCRBYFLOAT k -inf", "$-inf"},
		{"-0", "INCRBYFLOAT k -0", "$-0"}, {"-0", "INCRBYFLOAT k 0", "$0"}, {"0.1", "INCRBYFLOAT k 0.2", "$0.30000000000000004"}, {"1e100", "INCRBYFLOAT k 1", "$1e+100"},
		{"20.1", "INCRBYFLOAT k -20.1", "$0"}, {"9007199254740992", "INCRBYFLOAT k 1", "$9007199254740992"}, {"9223372036854775807", "INCRBYFLOAT k 1", "$9.223372036854776e+18"},
		{"1.7976931348623157e308", "INCRBYFLOAT k 1.7976931348623157e308", "$inf"}, {"-1.7976931348623157e308", "INCRBYFLOAT k -1.7976931348623157e308", "$-inf"},
		{"5e-324", "INCRBYFLOAT k 5e-324", "$1e-323"}, {"INFINITY", "INCRBYFLOAT k 5", "$inf"}, {"-Infinity", "INCRBYFLOAT k -inf", "$-inf"},
		{"inf", "INCRBYFLOAT k -inf", "TxFloatOut"}, {"-INF", "INCRBYFLOAT k infinity", "TxFloatOut"}, {"nan", "INCRBYFLOAT k 1", "TxFloat"}, {"x", "INCRBYFLOAT k 1", "TxFloat"},
		{"1e400", "INCRBYFLOAT k 1", "TxFloat"}, {"1", "INCRBYFLOAT k 1e400", "TxFloat"}, {"1", `INCRBYFLOAT k ""`, "TxFloat"}, {"1", "INCRBYFLOAT k nan", "TxFloat"},
		{" 1", "INCRBYFLOAT k 1", "TxFloat"}, {"1", "INCRBYFLOAT k (1", "TxFloat"}, {"1", "INCRBYFLOAT k 1_0", "TxFloat"}, {"", "INCRBYFLOAT k 0x1", "TxFloat"}, {long, "INCRBYFLOAT k 1", "TxFloat"},
		{"01.50", "INCRBYFLOAT k 0", "$1.5"}, {"1", "INCRBYFLOAT k " + strings.Repeat("0", 64), "$1"}, {"1", "INCRBYFLOAT k " + strings.Repeat("0", 65), "TxFloat"},
	} {
		p := newPlay(t)
		deadline := int64(0)
		if x[0] != "" {
			p.s.Put("k", value.Text(x[0]))
			p.s.SetDeadline("k", 50)
			p.s.Touched()
			deadline = 50
		}
		if strings.HasPrefix(x[2], "Tx") {
			p.do(x[1], x[2])
			p.untouched(x[1])
			if x[0] != "" {
				p.holds("k", x[0], 50)
			} else {
				p.holdsNot("k")
			}
			continue
		}
		p.do(x[1], x[2]+" | =")
		p.holds("k", x[2][1:], deadline)
	}
}

func TestP19_1_Ranges(t *testing.T) {
	p := newPlay(t)
	p.s.Put("k", value.Text("hello"))
	p.rows(`
GETRANGE k 1 3 => $ell
GETRANGE k -3 -1 => $llo
GETRANGE k 0 -1 => $hello
GETRANGE k 3 1 => $
GETRANGE k 0 100 => $hello
GETRANGE k -100 0 => $h
GETRANGE k -9223372036854775808 9223372036854775807 => $hello
GETRANGE k 5 5 => $
GETRANGE none 0 -1 => $
GETRANGE k 0 9223372036854775808 => TxInt
GETRANGE k -9223372036854775809 0 => TxInt
GETRANGE k 0 "" => TxInt
GETRANGE k 00 0 => TxInt
`)
	p.holds("k", "hello", 0)
	p.rows(`
SETRANGE k 1 EL => :5 | =
SETRANGE k 5 ! => :6 | =
SETRANGE k 0 hE => :6 | =
SETRANGE k 0 "" => :6
SETRANGE k 9223372036854775807 "" => :6
SETRANGE k 9223372036854775808 "" => TxInt
SETRANGE k "" "" => TxInt
SETRANGE k +1 x => TxInt
SETRANGE k -9223372036854775808 x => TxInt
SETRANGE none 5 "" => :0
SETRANGE n 0 x => :1 | =
SETRANGE m 2 x => :3 | =
`)
	p.holds("k", "hELlo!", 0)
	p.holds("m", "\x00\x00x", 0)
	p.holdsNot("none")
}

func TestP19_1_Bits(t *testing.T) {
	p := newPlay(t)
	p.rows(`
SET k a => +OK | =
GETBIT k 0 => :0
GETBIT k 1 => :1
GETBIT k 7 => :1
GETBIT k 8 => :0
GETBIT k 1073741823 => :0
GETBIT k 1073741824 => TxInt
GETBIT k -1 => TxInt
GETBIT k 01 => TxInt
GETBIT k "" => TxInt
GETBIT k 9223372036854775808 => TxInt
GETBIT none 5 => :0
BITCOUNT k => :3
SETBIT k 6 1 => :0 | =
GET k => $c
SETBIT k 6 1 => :1 | =
SETBIT k 6 0 => :1 | =
SETBIT k 6 0 => :0 | =
GET k => $a
SETBIT k 6 2 => TxInt
SETBIT k 6 -1 => TxInt
SETBIT k 6 01 => TxInt
SETBIT k 6 "" => TxInt
SETBIT k 6 -0 => TxInt
SETBIT k 6 9223372036854775807 => TxInt
SETBIT k 6 4294967296 => TxInt
SETBIT k 6 4294967297 => TxInt
SETBIT k -1 1 => TxInt
SETBIT k 1073741824 1 => TxInt
SETBIT z 0 0 => :0 | =
STRLEN z => :1
SETBIT z 9 1 => :0 | =
STRLEN z => :2
BITCOUNT z => :1
`)
	p.holds("z", "\x00\x40", 0)
	p.holds("k", "a", 0)
	p.rows(`
SET s abc => +OK | =
BITCOUNT s => :10
BITCOUNT s 0 -1 => :10
BITCOUNT s 1 1 => :3
BITCOUNT s -1 -1 => :4
BITCOUNT s 2 1 => :0
BITCOUNT s -9223372036854775808 9223372036854775807 => :10
BITCOUNT s 0 9223372036854775808 => TxInt
BITCOUNT s x 0 => TxInt
BITCOUNT s 0 x => TxInt
BITCOUNT s 0 => TxSyntax
BITCOUNT s "" => TxSyntax
BITCOUNT s 0 1 2 => TxSyntax
BITCOUNT s 0 1 2 3 => TxSyntax
BITCOUNT none => :0
BITCOUNT none 0 5 => :0
`)
	p.holdsNot("none")
}

// The options of SET that are alone: what each makes of a key that is there, and of one that is not.
func TestP19_1_SetOptionsAlone(t *testing.T) {
	for _, x := range [][3]string{ // options; what comes of it where k holds 1; where it is not there
		{"", "+OK | =", "+OK | ="},
		{"NX", "null", "+OK | ="},
		{"XX", "+OK | =", "null"},
		{"GET", "$1 | =", "null | ="},
		{"KEEPTTL", "+OK | =", "+OK | ="},
		{"EX 2", "+OK | SET k v PXAT 3000", "+OK | SET k v PXAT 3000"},
		{"PX 2", "+OK | SET k v PXAT 1002", "+OK | SET k v PXAT 1002"},
		{"EXAT 2", "+OK | SET k v PXAT 2000", "+OK | SET k v PXAT 2000"},
		{"PXAT 1001", "+OK | SET k v PXAT 1001", "+OK | SET k v PXAT 1001"},
		{"EXAT 1", "+OK | DEL k", "+OK"},
		{"PXAT 1000", "+OK | DEL k", "+OK"},
		{"PXAT 1", "+OK | DEL k", "+OK"},
		{"NX GET", "$1", "null | ="},
		{"XX GET", "$1 | =", "null"},
		{"NX KEEPTTL", "null", "+OK | ="},
		{"XX KEEPTTL", "+OK | =", "null"},
		{"NX PXAT 1", "null", "+OK"},
		{"XX PXAT 1", "+OK | DEL k", "null"},
		{"GET PXAT 1", "$1 | DEL k", "null"},
		{"GET PXAT 1 NX", "$1", "null"},
		{"GET XX EXAT 1", "$1 | DEL k", "null"},
		{"GET KEEPTTL", "$1 | =", "null | ="},
		{"GET PX 2", "$1 | SET k v PXAT 1002", "null | SET k v PXAT 1002"},
		{"NX PX 2", "null", "+OK | SET k v PXAT 1002"},
		{"XX EX 2", "+OK | SET k v PXAT 3000", "null"},
		{"NX GET EXAT 2", "$1", "null | SET k v PXAT 2000"},
	} {
		command := strings.TrimSpace("SET k v " + x[0])
		p := newPlay(t)
		p.tick(1000)
		p.do(command, x[2])
		p.s.Put("k", value.Text("1"))
		p.do(command, x[1])
	}
}

// setParts are SET's options, each alone, with its number where it has one.
var setParts = []string{"NX", "XX", "GET", "KEEPTTL", "EX 5", "PX 5", "EXAT 5", "PXAT 5000"}

// mayStand says which two options may stand beside one another.
func mayStand(a, b string) bool {
	a, b = strings.Fields(a)[0], strings.Fields(b)[0]
	over := []string{"NX", "XX"}
	lives := []string{"KEEPTTL", "EX", "PX", "EXAT", "PXAT"}
	return a != b && !(slices.Contains(over, a) && slices.Contains(over, b)) && !(slices.Contains(lives, a) && slices.Contains(lives, b))
}

func TestP19_1_SetOptionsInPairs(t *testing.T) {
	for _, one := range setParts {
		for _, two := range setParts {
			for _, there := range []bool{true, false} {
				for _, small := range []bool{true, false} {
					b := newBoth(t, 7)
					b.each(func(s *keyspace.Space) {
						s.Tick(1000)
						if there {
							s.Put("k", value.Text("1"))
						}
					})
					options := one + " " + two
					if small {
						options = strings.ToLower(options)
					}
					got := b.do(split("SET k v " + options)...)
					if wrong := short(got.Reply) == "TxSyntax"; wrong == mayStand(one, two) {
						t.Errorf("SET k v %s: %s", options, line(got))
					}
					b.hold(options)
					if mayStand(one, two) { // in both orders alike, but for the effect's own words
						p := newPlay(t)
						p.tick(1000)
						if there {
							p.s.Put("k", value.Text("1"))
						}
						other, _ := Do(p.s, nil, split("SET k v "+two+" "+one))
						if !sameReply(got.Reply, other.Reply) || len(got.Effects) != len(other.Effects) || !slices.EqualFunc(b.got.Stored(), p.s.Stored(), sameStored) {
							t.Errorf("SET k v %s: %s; the other way round %s", options, line(got), line(other))
						}
					}
				}
			}
		}
	}
}

func TestP19_1_SetOptionsByThree(t *testing.T) {
	for _, one := range setParts {
		for _, two := range setParts {
			for _, three := range setParts {
				p := newPlay(t)
				p.tick(1000)
				p.s.Put("k", value.Text("1"))
				got, _ := Do(p.s, nil, split("SET k v "+one+" "+two+" "+three))
				may := mayStand(one, two) && mayStand(one, three) && mayStand(two, three)
				if wrong := short(got.Reply) == "TxSyntax"; wrong == may {
					t.Errorf("SET k v %s %s %s: %s", one, two, three, line(got))
				}
			}
		}
	}
}

// The times that are just let in, and just not, at several clocks: by each of the four what is told, and the deadline.
func TestP19_1_Times(t *testing.T) {
	for _, x := range []struct {
		now     int64
		options string
		want    string // the time, - where it is not above the clock, or an error
	}{
		{0, "EX 0", "TxExpire"}, {0, "PX 0", "TxExpire"}, {0, "EXAT 0", "TxExpire"}, {0, "PXAT 0", "TxExpire"},
		{0, "EX -1", "TxExpire"}, {0, "PX -1", "TxExpire"}, {0, "EXAT -1", "TxExpire"}, {0, "PXAT -1", "TxExpire"},
		{0, "EX 1", "1000"}, {0, "PX 1", "1"}, {0, "EXAT 1", "1000"}, {0, "PXAT 1", "1"},
		{1000, "EX 1", "2000"}, {1000, "PX 1", "1001"}, {1000, "EXAT 1", "-"}, {1000, "PXAT 1", "-"}, {1000, "PXAT 999", "-"}, {1000, "PXAT 1000", "-"}, {1000, "PXAT 1001", "1001"},
		{1999, "EXAT 2", "2000"}, {2000, "EXAT 2", "-"}, {2001, "EXAT 2", "-"},
		{0, "PXAT 9007199254740992", "9007199254740992"}, {0, "PXAT 9007199254740993", "TxExpire"}, {0, "PX 9007199254740992", "9007199254740992"}, {0, "PX 9007199254740993", "TxExpire"},
		{0, "EX 9007199254740", "9007199254740000"}, {0, "EX 9007199254741", "TxExpire"}, {0, "EXAT 9007199254740", "9007199254740000"}, {0, "EXAT 9007199254741", "TxExpire"},
		{992, "EX 9007199254740", "9007199254740992"}, {993, "EX 9007199254740", "TxExpire"}, {993, "EX 9007199254739", "9007199254739993"}, {993, "EXAT 9007199254740", "9007199254740000"},
		{7, "PX 9007199254740985", "9007199254740992"}, {7, "PX 9007199254740986", "TxExpire"}, {7, "PXAT 9007199254740992", "9007199254740992"},
		{9007199254740992, "PX 1", "TxExpire"}, {9007199254740992, "EX 1", "TxExpire"}, {9007199254740992, "PXAT 9007199254740992", "-"}, {9007199254740992, "PXAT 9007199254740993", "TxExpire"},
		{9007199254740992, "EXAT 9007199254740", "-"}, {9007199254740992, "EXAT 9007199254741", "TxExpire"}, {9007199254740991, "PX 1", "9007199254740992"}, {9007199254740991, "PX 2", "TxExpire"},
		{9007199254740991, "PXAT 9007199254740992", "9007199254740992"}, {9007199254739992, "EX 1", "9007199254740992"}, {9007199254739993, "EX 1", "TxExpire"},
		{5, "EX 9223372036854775807", "TxExpire"}, {5, "PX 9223372036854775807", "TxExpire"}, {5, "EXAT 9223372036854775807", "TxExpire"}, {5, "PXAT 9223372036854775807", "TxExpire"},
		{5, "EX -9223372036854775808", "TxExpire"}, {5, "PX -9223372036854775808", "TxExpire"}, {5, "EXAT -9223372036854775808", "TxExpire"}, {5, "PXAT -9223372036854775808", "TxExpire"},
		{5, "EX 9223372036854775808", "TxInt"}, {5, "PX 9223372036854775808", "TxInt"}, {5, "EXAT 9223372036854775808", "TxInt"}, {5, "PXAT -9223372036854775809", "TxInt"},
		{5, "EX 9223372036854776", "TxExpire"}, {5, "EXAT 9223372036854776", "TxExpire"}, {5, "EX 18446744073709552", "TxExpire"}, {5, "EXAT 18446744073709552", "TxExpire"}, {5, "EXAT 36893488147419104", "TxExpire"},
		{5, "EX 05", "TxInt"}, {5, "PX +5", "TxInt"}, {5, "EXAT 5.0", "TxInt"}, {5, "PXAT -0", "TxInt"}, {5, `PX ""`, "TxInt"}, {5, "EX KEEPTTL", "TxInt"},
	} {
		for _, there := range []bool{true, false} {
			p := newPlay(t)
			p.tick(x.now)
			if there {
				p.s.Put("k", value.Text("1"))
			}
			p.s.Touched()
			switch {
			case x.want[0] == 'T':
				p.do("SET k v "+x.options, x.want)
				p.untouched(x.options)
				if there {
					p.holds("k", "1", 0)
				}
			case x.want != "-":
				p.do("SET k v "+x.options, "+OK | SET k v PXAT "+x.want)
				at, _ := strconv.ParseInt(x.want, 10, 64)
				p.holds("k", "v", at)
			case there:
				p.do("SET k v "+x.options, "+OK | DEL k")
				if got := p.s.Touched(); !slices.Equal(got, []string{"k"}) || len(p.s.Steps()) != 0 {
					t.Errorf("%s: touched: %q", x.options, got)
				}
			default:
				p.do("SET k v "+x.options, "+OK")
				p.untouched(x.options)
			}
			if x.want == "-" {
				p.holdsNot("k")
			}
		}
	}
}

// A key whose deadline is taken away, or set anew, has just that one.
func TestP19_1_SetOverADeadline(t *testing.T) {
	for _, x := range []struct {
		options  string
		text     string
		deadline int64
	}{{"", "v", 0}, {"XX", "v", 0}, {"GET", "v", 0}, {"NX", "1", 70}, {"KEEPTTL", "v", 70}, {"KEEPTTL XX", "v", 70}, {"NX KEEPTTL", "1", 70}, {"PX 5", "v", 5}, {"PXAT 90", "v", 90}, {"EX 1", "v", 1000}, {"NX PX 5", "1", 70}} {
		p := newPlay(t)
		p.s.Put("k", value.Text("1"))
		p.s.SetDeadline("k", 70)
		Do(p.s, nil, split("SET k v "+x.options))
		p.holds("k", x.text, x.deadline)
		p.tick(x.deadline)
		if _, there := p.s.Look("k"); there != (x.deadline == 0) {
			t.Errorf("SET k v %s: at %d it is there: %v", x.options, x.deadline, there)
		}
	}
}
