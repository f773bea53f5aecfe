package ontexts

import (
	"fmt"
	"math/rand/v2"
	"slices"
	"strconv"
	"strings"
	"testing"

	"pantry/api"
	"pantry/keyspace"
	"pantry/value"
)

// states are what the key k may be when a command comes; the clock stands at 1000 then.
var states = []struct {
	name string
	make func(s *keyspace.Space)
}{
	{"not there", func(s *keyspace.Space) {}},
	{"a number", func(s *keyspace.Space) { s.Put("k", value.Text("7")) }},
	{"a text", func(s *keyspace.Space) { s.Put("k", value.Text("abc")) }},
	{"the empty text", func(s *keyspace.Space) { s.Put("k", value.Text("")) }},
	{"a number with a deadline", func(s *keyspace.Space) { s.Put("k", value.Text("-3")); s.SetDeadline("k", 5000) }},
	{"past", func(s *keyspace.Space) { s.Put("k", value.Text("5")); s.SetDeadline("k", 1000) }},
	{"a list", func(s *keyspace.Space) { s.Put("k", other(api.KdList)) }},
	{"ranks with a deadline", func(s *keyspace.Space) { s.Put("k", other(api.KdRanks)); s.SetDeadline("k", 5000) }},
	{"a list that is past", func(s *keyspace.Space) { s.Put("k", other(api.KdList)); s.SetDeadline("k", 999) }},
}

// rowsOf are all rows of up to most words of an alphabet, the empty row first.
func rowsOf(alphabet []string, most int) [][]string {
	rows := [][]string{nil}
	for from, n := 0, 0; n < most; n++ {
		to := len(rows)
		for _, row := range rows[from:to] {
			for _, w := range alphabet {
				rows = append(rows, append(slices.Clone(row), w))
			}
		}
		from = to
	}
	return rows
}

func TestP19_1_EverySet(t *testing.T) {
	rows := rowsOf([]string{"NX", "xx", "Get", "KEEPTTL", "EX", "px", "eXaT", "PXAT", "4", "0", "x", "1000"}, 4)
	for _, state := range states {
		for _, row := range rows {
			b := newBoth(t, 7)
			b.each(func(s *keyspace.Space) { state.make(s); s.Tick(1000) })
			b.do(append([]string{"SET", "k", "v"}, row...)...)
			b.hold(state.name + ": " + brief(row))
		}
	}
}

func TestP19_1_EveryShortCommand(t *testing.T) {
	fixed := rowsOf([]string{"", "0", "1", "-1", "2", "7", "x", "01", "9223372036854775807", "-9223372036854775808", "inf"}, 3)
	several := rowsOf([]string{"k", "j", "1", "x", "0"}, 5)
	for _, state := range states {
		for _, name := range names {
			rows := fixed
			if name == "MGET" || name == "MSET" || name == "MSETNX" {
				rows = several
			}
			if name == "SET" {
				continue
			}
			for _, row := range rows {
				words := append([]string{name, "k"}, row...)
				if len(words) > commands[name]+1 && commands[name] > 0 {
					continue
				}
				b := newBoth(t, 7)
				b.each(func(s *keyspace.Space) { state.make(s); s.Put("j", value.Text("12")); s.Tick(1000) })
				b.do(words...)
				b.hold(state.name + ": " + brief(words))
			}
		}
	}
}

// samples are commands that between them go every way that there is.
var samples = strings.Split(strings.TrimSpace(`
GET k
SET k v
SET k v NX
SET k v XX
SET k v GET
SET k v KEEPTTL
SET k v XX KEEPTTL GET
SET k v EX 5
SET k v PXAT 5000 XX
SET k v PXAT 1000
SET k v PXAT 1 NX
SET k v PXAT 1 XX GET
SET k v z
SETNX k v
GETSET k v
GETDEL k
MGET k n1 k n2 none
MGET n3 n4
MSET k v n2 w k x
MSET none v none w
MSETNX k v n2 w
MSETNX none v k w
MSETNX none v nobody w none x
APPEND k v
STRLEN k
INCR k
DECR k
INCRBY k 5
DECRBY k 9223372036854775807
INCRBYFLOAT k 0.5
INCRBYFLOAT k -inf
GETRANGE k 0 1
SETRANGE k 1 v
SETRANGE k 1 ""
SETRANGE k 1048576 v
GETBIT k 5
SETBIT k 5 1
SETBIT k 8388608 1
BITCOUNT k
BITCOUNT k 0 1
`), "\n")

// Each command asks the space just what the chapter says, no more often and no less: where a table is being moved each
// call moves a chain, and every next sample shows how many there were.
func TestP19_1_EachCallAsItLies(t *testing.T) {
	for _, state := range states {
		for _, n := range []int{0, 3, 4, 32, 64, 65} {
			for _, command := range samples {
				b := newBoth(t, 11)
				b.each(func(s *keyspace.Space) {
					state.make(s)
					for i := range n {
						s.Put("n"+strconv.Itoa(i), value.Text("1"))
						s.SetDeadline("n"+strconv.Itoa(i), 4000)
					}
					s.Tick(1000)
				})
				what := fmt.Sprintf("%s, %d others: %s", state.name, n, command)
				b.do(split(command)...)
				b.lie(what)
				b.do(split(command)...)
				b.lie(what + ", once more")
			}
		}
	}
}

// script draws commands that mostly mean something.
type script struct {
	r    *rand.Rand
	keys []string
}

func (x script) of(words ...string) string { return words[x.r.IntN(len(words))] }
func (x script) key() string               { return x.of(x.keys...) }

func (x script) text() string {
	if x.r.IntN(3) > 0 {
		return x.number()
	}
	return x.of("", "a", "abc", "hello world", "\x00\xff", "7.25", "inf", "-0", "01", " 1", strings.Repeat("z", x.r.IntN(40)))
}

func (x script) number() string {
	if x.r.IntN(4) > 0 {
		return strconv.Itoa(x.r.IntN(41) - 20)
	}
	return x.of("9223372036854775807", "-9223372036854775808", "9223372036854775808", "4611686018427387904", "x", "", "+1", "1048576", "8388608", "1073741823", strconv.FormatInt(int64(x.r.Uint64()), 10))
}

func (x script) option() []string {
	w := x.of("NX", "XX", "GET", "KEEPTTL", "EX", "PX", "EXAT", "PXAT")
	var l []string
	switch w {
	case "EX", "EXAT":
		l = []string{x.of("1", "2", "1", "2", "0", "9007199254740", "x")}
	case "PX", "PXAT":
		l = []string{x.of(strconv.Itoa(x.r.IntN(3000)), strconv.Itoa(x.r.IntN(3000)), strconv.Itoa(x.r.IntN(20)), "-1", "9007199254740992")}
	}
	if x.r.IntN(2) == 0 {
		w = strings.ToLower(w)
	}
	return append([]string{w}, l...)
}

func (x script) command() []string {
	name := x.of(names...)
	words := []string{name, x.key()}
	switch name {
	case "SET":
		words = append(words, x.text())
		for x.r.IntN(2) == 0 {
			words = append(words, x.option()...)
		}
	case "SETNX", "GETSET", "APPEND":
		words = append(words, x.text())
	case "MGET":
		for x.r.IntN(3) > 0 {
			words = append(words, x.key())
		}
	case "MSET", "MSETNX":
		words = append(words, x.text())
		for x.r.IntN(2) > 0 {
			words = append(words, x.key(), x.text())
		}
		if x.r.IntN(9) == 0 {
			words = append(words, x.key())
		}
	case "INCRBY", "DECRBY", "GETBIT":
		words = append(words, x.number())
	case "INCRBYFLOAT":
		words = append(words, x.of(x.number(), "0.5", "1e3", "-2.25", "inf", "-inf", "nan"))
	case "GETRANGE":
		words = append(words, x.number(), x.number())
	case "SETRANGE":
		words = append(words, x.number(), x.text())
	case "SETBIT":
		words = append(words, strconv.Itoa(x.r.IntN(300)), x.of("0", "1", "1", "2"))
	case "BITCOUNT":
		for range x.r.IntN(3) {
			words = append(words, x.number())
		}
	}
	if x.r.IntN(40) == 0 {
		words = append(words, x.of("x", "", "GET", "1"))
	}
	if x.r.IntN(2) == 0 {
		words[0] = strings.ToLower(name)
	}
	return words
}

// tidy keeps texts short, so that no drawn script is slow.
func (x script) tidy(words []string) bool {
	name := strings.ToUpper(words[0])
	return !(name == "SETRANGE" && len(words) == 4 && len(words[2]) > 3 && len(words[2]) < 8) && !(name == "SETBIT" && len(words) > 2 && len(words[2]) > 3)
}

// beside is what happens in a space beside commands: the clock goes on, keys hold other kinds, deadlines are set.
func (x script) beside() func(s *keyspace.Space) {
	key, n := x.key(), x.r.Int64N(2000)
	kind := others[x.r.IntN(4)]
	switch x.r.IntN(6) {
	case 0, 1:
		return func(s *keyspace.Space) { s.Tick(s.Now() + n%97) }
	case 2, 3:
		return func(s *keyspace.Space) { s.SetDeadline(key, s.Now()+n%151) }
	case 4:
		return func(s *keyspace.Space) { s.Put(key, other(kind)) }
	}
	return func(s *keyspace.Space) { s.Delete(key) }
}

func TestP19_1_AsSpelled(t *testing.T) {
	for seed := range uint64(300) {
		x := script{rand.New(rand.NewPCG(seed, 19)), []string{"a", "b", "c", "d", "e"}}
		for i := range x.r.IntN(90) {
			x.keys = append(x.keys, "n"+strconv.Itoa(i))
			if seed%3 == 0 {
				break
			}
		}
		b := newBoth(t, seed)
		for range 150 {
			if x.r.IntN(6) == 0 {
				b.each(x.beside())
			}
			words := x.command()
			if !x.tidy(words) {
				continue
			}
			b.do(words...)
			b.hold(fmt.Sprintf("seed %d: %s", seed, brief(words)))
			if x.r.IntN(30) == 0 {
				b.lie(fmt.Sprintf("seed %d: %s", seed, brief(words)))
			}
		}
		b.lie(fmt.Sprintf("seed %d", seed))
	}
}
