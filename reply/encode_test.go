package reply

import (
	"math"
	"math/rand/v2"
	"slices"
	"strings"
	"testing"
	"time"

	"pantry/api"
)

func TestP16_1_ChapterExamples(t *testing.T) {
	for _, row := range []struct {
		r api.Reply
		b string
	}{
		{Simple("OK"), "+OK\r\n"}, {Error("a\rb"), "-a b\r\n"}, {Int(-7), ":-7\r\n"}, {Bulk("hi"), "$2\r\nhi\r\n"}, {Bulk(""), "$0\r\n\r\n"}, {Null(), "$-1\r\n"},
		{Array(Int(1), Null()), "*2\r\n:1\r\n$-1\r\n"}, {Array(), "*0\r\n"}, {api.Reply{Kind: api.RpNullArray}, "*-1\r\n"},
	} {
		wantBytes(t, row.r, row.b)
	}
	if b, code := Encode(nested(8)); code != api.OK || string(b) != strings.Repeat("*1\r\n", 7)+"*0\r\n" {
		t.Errorf("eight arrays: %q %d", b, code)
	}
	wantRefused(t, nested(9), api.ErrDeep)
	for _, r := range []api.Reply{{Kind: api.RpSimple, Text: "a", Int: 1}, {Kind: 8}, {Kind: api.RpSimple, Text: "a\n"}} {
		wantRefused(t, r, api.ErrReply)
	}
	wantRefused(t, Bulk(strings.Repeat("a", 16777216)), api.ErrLong)
}

func TestP16_1_EachKind(t *testing.T) {
	for _, r := range good() {
		asSpelled(t, r)
		if _, code := Encode(r); code != api.OK {
			t.Errorf("Encode %s: %d", short(r), code)
		}
	}
}

// Kinds that the seven would be if they were told in fewer bits, or from another end, are others too.
func TestP16_1_NoSuchKind(t *testing.T) {
	for _, kind := range []int{0, 8, 9, -1, -2, -4, -7, 16, 129, 256, 257, 260, 1<<16 + 1, 1<<32 + 1, 1<<32 + 6, '+', '*', math.MaxInt, math.MinInt, math.MinInt + 1} {
		r := api.Reply{Kind: kind}
		for deep := range 12 {
			wantRefused(t, r, api.ErrReply)
			r = api.Reply{Kind: api.RpArray, List: []api.Reply{Int(int64(deep)), r, Null()}}
		}
		wantRefused(t, api.Reply{Kind: kind, Text: "a"}, api.ErrReply)
		wantRefused(t, api.Reply{Kind: kind, Int: 1}, api.ErrReply)
		wantRefused(t, api.Reply{Kind: kind, List: good()}, api.ErrReply)
	}
}

// Each field, with each value, at each depth: where it does not belong the whole reply is refused.
func TestP16_1_FieldsThatDoNotBelong(t *testing.T) {
	texts := []string{"", "a", " ", "\x00", "-1", "\xff"}
	ints := []int64{0, 1, -1, math.MaxInt64, math.MinInt64, 1 << 32, 1 << 63 >> 1}
	lists := [][]api.Reply{nil, {}, {Int(1)}, {Null(), Null()}, {Array()}}
	refused := 0
	for kind := 1; kind <= 7; kind++ {
		for _, text := range texts {
			for _, n := range ints {
				for _, l := range lists {
					r := api.Reply{Kind: kind, Text: text, Int: n, List: l}
					for range 11 {
						asSpelled(t, r)
						r = Array(Bulk("x"), r, Array())
					}
					if spelledWrong(r) {
						refused++
					}
				}
			}
		}
	}
	if all, right := 7*6*7*5, 3*6*2+7*2+2*2+5; refused != all-right {
		t.Errorf("%d of %d were to be refused", refused, all)
	}
}

// One that is wrong is found wherever it stands, and a List that does not belong is as wrong if all in it is.
func TestP16_1_OneIsWrong(t *testing.T) {
	for _, wrong := range []api.Reply{{}, {Kind: 8}, {Kind: 1, Int: 1}, {Kind: 2, Text: "\r"}, {Kind: 3, Text: "a"}, {Kind: 4, List: []api.Reply{{}}}, {Kind: 5, Int: -1}, {Kind: 6, Text: "a"}, {Kind: 7, List: []api.Reply{{Kind: 7}}}} {
		for n := 1; n < 6; n++ {
			for at := range n {
				l := slices.Repeat([]api.Reply{Array(Int(1), Array())}, n)
				l[at] = wrong
				wantRefused(t, Array(l...), api.ErrReply)
				wantRefused(t, Array(Array(), Array(l...), Bulk("a")), api.ErrReply)
				l[at] = Array(Null(), wrong)
				wantRefused(t, Array(l...), api.ErrReply)
			}
		}
	}
}

// A List without replies is as good as none, whatever lies in the room behind its end, and belongs to each Kind.
func TestP16_1_EmptyLists(t *testing.T) {
	room := []api.Reply{{Kind: 9}, Int(5), {Kind: 1, Text: "\n"}}
	for _, r := range good() {
		if len(r.List) == 0 {
			b, _ := Encode(r)
			for _, l := range [][]api.Reply{nil, {}, room[:0], room[3:], make([]api.Reply, 0, 9)} {
				r.List = l
				wantBytes(t, r, string(b))
				wantBytes(t, Array(r), "*1\r\n"+string(b))
			}
		}
	}
	wantBytes(t, api.Reply{Kind: api.RpArray, List: room[1:2]}, "*1\r\n:5\r\n")
}

// Of all bytes these two alone may not stand in a line; in a Bulk they may.
func TestP16_1_TextsOfLines(t *testing.T) {
	for b := range 256 {
		c := string([]byte{byte(b)})
		for _, text := range []string{c, c + "a", "a" + c, "a" + c + "a", strings.Repeat("a", 40) + c, strings.Repeat("é", 40) + c, c + strings.Repeat("a", 300), "\xc3" + c, "\xe2\x80" + c, c + "\x80", c + c} {
			wantBytes(t, Bulk(text), spelledBytes(api.Reply{Kind: 4, Text: text}))
			for _, kind := range []int{api.RpSimple, api.RpError} {
				r := api.Reply{Kind: kind, Text: text}
				if b == 13 || b == 10 {
					wantRefused(t, r, api.ErrReply)
					wantRefused(t, Array(Int(1), Array(r)), api.ErrReply)
				} else {
					wantBytes(t, r, "?+-"[kind:kind+1]+text+"\r\n")
				}
			}
		}
	}
	for _, text := range []string{"\r\n", "\n\r", "a\r\nb", "\r\na", "a\r\n", "OK\r\n+OK", "\r\r", strings.Repeat("a", 5000) + "\r\n"} {
		wantRefused(t, api.Reply{Kind: api.RpSimple, Text: text}, api.ErrReply)
		wantRefused(t, api.Reply{Kind: api.RpError, Text: text}, api.ErrReply)
		wantBytes(t, Bulk(text), spelledBytes(Bulk(text)))
	}
}

func TestP16_1_Numbers(t *testing.T) {
	for shift := range 64 {
		for _, n := range []int64{1 << shift, 1<<shift - 1, -1 << shift, 1 - 1<<shift, math.MaxInt64 >> shift, math.MinInt64 >> shift} {
			asSpelled(t, api.Reply{Kind: 3, Int: n})
			asSpelled(t, api.Reply{Kind: 3, Int: -n})
		}
	}
	for _, n := range []int{0, 1, 9, 10, 11, 99, 100, 101, 999, 1000, 9999, 10000, 65535, 65536, 1048576} {
		asSpelled(t, api.Reply{Kind: 4, Text: strings.Repeat("b", n)})
		asSpelled(t, api.Reply{Kind: 6, List: slices.Repeat([]api.Reply{{Kind: 5}}, n)})
	}
}

// An array's depth is that of its deepest reply, wherever that stands; what is no array adds none.
func TestP16_1_Depth(t *testing.T) {
	for deep := 1; deep <= 20; deep++ {
		for _, r := range []api.Reply{nested(deep), nested(deep, Int(1)), nested(deep, Null(), Simple("a"), Error("b"), Bulk("c")), nested(deep, api.Reply{Kind: api.RpNullArray})} {
			if spelledDepth(r) != deep {
				t.Fatalf("the depth of %s", short(r))
			}
			asSpelled(t, r)
			if _, code := Encode(r); (code == api.OK) != (deep <= 8) {
				t.Fatalf("Encode of %d arrays in one another: %d", deep, code)
			}
			for at := range 4 {
				l := []api.Reply{Int(1), nested(2), Array(), nested(3, Int(5))}
				l[at] = r
				asSpelled(t, Array(l...))
			}
		}
	}
}

// Depths far beyond any that can be written are told as all others; so is what is wrong at their bottom.
func TestP16_1_VeryDeep(t *testing.T) {
	for _, deep := range []int{100, 1000, 65536, 1 << 20} {
		wantRefused(t, nested(deep), api.ErrDeep)
		wantRefused(t, nested(deep, Bulk("a"), Null()), api.ErrDeep)
		wantRefused(t, nested(deep, Int(1), api.Reply{Kind: 8}), api.ErrReply)
		wantRefused(t, nested(deep, api.Reply{Kind: 1, Text: "\n"}), api.ErrReply)
	}
}

// A reply that is wrong is told ahead of one that is too deep, and that ahead of one that is too long.
func TestP16_1_WhichErrorFirst(t *testing.T) {
	wrong, deep, long := api.Reply{Kind: 3, Text: "a"}, nested(8), Bulk(strings.Repeat("a", api.MaxBytes))
	for _, l := range [][]api.Reply{{wrong, deep}, {deep, wrong}, {wrong, long}, {long, wrong}, {deep, long, wrong}, {wrong, long, deep}, {long, deep, Array(Array(wrong))}, {long, nested(11, wrong)}, {nested(8, Array(wrong)), deep}, {deep, nested(30, Int(1), wrong)}} {
		wantRefused(t, Array(l...), api.ErrReply)
	}
	for _, l := range [][]api.Reply{{long, deep}, {deep, long}, {nested(8, long)}, {long, long, nested(20, long)}} {
		wantRefused(t, Array(l...), api.ErrDeep)
	}
	for _, l := range [][]api.Reply{{long}, {long, nested(7)}, {nested(7, long)}} {
		wantRefused(t, Array(l...), api.ErrLong)
	}
	wantRefused(t, api.Reply{Kind: 4, Text: long.Text, Int: 1}, api.ErrReply)
	wantRefused(t, api.Reply{Kind: 1, Text: long.Text + "\n"}, api.ErrReply)
}

// exactly is a reply of just so many bytes, for each way in which one may come to be long; so is the one behind it with
// one byte more.
func exactly(size int) []api.Reply {
	fill := func(used int) string { return strings.Repeat("t", size-used) }
	ints := slices.Repeat([]api.Reply{Int(math.MinInt64)}, 700000) // with a slash for CR LF: "*700001/", and ":-9223372036854775808/" of each
	asLine := Simple(fill(9 + 23*len(ints) + 3))
	return []api.Reply{
		Simple(fill(3)), Error(fill(3)), Bulk(fill(13)),
		Array(Simple(fill(7))),
		Array(Bulk(fill(size/2)), Bulk(fill(size-size/2+28))),
		Array(append(ints, asLine)...),
		Array(append([]api.Reply{asLine}, ints...)...),
		nested(8, Int(77), Error(fill(8*4+5+3+5)), Null()),
	}
}

func TestP16_1_JustAtMaxBytes(t *testing.T) {
	for i, r := range exactly(16777216) {
		b, code := Encode(r)
		if want := spelledBytes(r); code != api.OK || len(want) != 16777216 || string(b) != want {
			t.Errorf("%d: %d bytes of %d: %d", i, len(b), len(want), code)
		}
		if spelledDepth(r) < 8 {
			wantRefused(t, Array(r), api.ErrLong)
		}
	}
	for i, r := range exactly(16777217) {
		if n := len(spelledBytes(r)); n != 16777217 {
			t.Errorf("%d: %d bytes", i, n)
		}
		wantRefused(t, r, api.ErrLong)
	}
}

// Only the last reply, or its end, makes it too long.
func TestP16_1_TooLongAtTheEnd(t *testing.T) {
	r := exactly(16777216)[5]
	for _, more := range []api.Reply{Int(1), Null(), Array(), {Kind: api.RpNullArray}, Simple(""), Error(""), Bulk("")} {
		wantRefused(t, Array(append(r.List, more)...), api.ErrLong)
	}
}

func inTime(t *testing.T, what string, do func()) {
	t.Helper()
	start := time.Now()
	do()
	if took := time.Since(start); took > 30*time.Second {
		t.Errorf("%s: %v", what, took)
	}
}

// Lists that stand in many places of a reply make it greater than could ever be gone through.
func TestP16_1_ListsInManyPlaces(t *testing.T) {
	inTime(t, "each list twice in the one above it", func() {
		r, wrong := Int(1), api.Reply{Kind: 8}
		for deep := 1; deep <= 200; deep++ {
			r, wrong = Array(r, r), Array(wrong, r, wrong)
			if deep <= 8 {
				asSpelled(t, r)
			} else {
				wantRefused(t, r, api.ErrDeep)
			}
			wantRefused(t, wrong, api.ErrReply)
		}
	})
	inTime(t, "each list a thousand times", func() {
		for _, least := range []api.Reply{Int(1), Bulk(strings.Repeat("a", api.MaxText)), Null()} {
			r, wrong := least, Array(least, api.Reply{})
			for range 8 {
				r, wrong = thousand(r), thousand(wrong)
			}
			wantRefused(t, r, api.ErrLong)
			wantRefused(t, thousand(r), api.ErrDeep)
			wantRefused(t, wrong, api.ErrReply)
		}
	})
}

func thousand(r api.Reply) api.Reply {
	return Array(slices.Repeat([]api.Reply{r}, 1000)...)
}

// A list that lies within itself has no depth that could be written.
func TestP16_1_AListWithinItself(t *testing.T) {
	inTime(t, "within itself", func() {
		for n := 1; n < 5; n++ {
			for at := range n {
				l := slices.Repeat([]api.Reply{Int(1)}, n)
				l[at] = api.Reply{Kind: api.RpArray, List: l}
				wantCode(t, l[at], api.ErrDeep)
				wantCode(t, api.Reply{Kind: api.RpArray, List: []api.Reply{{Kind: api.RpArray, List: l}, Null()}}, api.ErrDeep)
				other := []api.Reply{Array(), {Kind: api.RpArray, List: l}}
				l[at].List = other
				wantCode(t, l[at], api.ErrDeep)
				other[0].Int = 1
				wantCode(t, l[at], api.ErrReply)
			}
		}
	})
}

// wantCode tells nothing of the reply: it has no end.
func wantCode(t *testing.T, r api.Reply, want api.Errno) {
	t.Helper()
	if b, code := Encode(r); code != want || b != nil {
		t.Fatalf("Encode: %d bytes, %d, not %d", len(b), code, want)
	}
}

// Lists that begin at one place and end at several are looked at each; so is one that lies deeper another time.
func TestP16_1_ListsThatShare(t *testing.T) {
	row := []api.Reply{Int(1), nested(8), {Kind: 8}}
	one, two, three := api.Reply{Kind: 6, List: row[:1]}, api.Reply{Kind: 6, List: row[:2]}, api.Reply{Kind: 6, List: row}
	for _, c := range []struct {
		l    []api.Reply
		code api.Errno
	}{
		{[]api.Reply{one, one}, api.OK}, {[]api.Reply{one, two}, api.ErrDeep}, {[]api.Reply{two, one}, api.ErrDeep}, {[]api.Reply{one, three}, api.ErrReply}, {[]api.Reply{three, one}, api.ErrReply},
		{[]api.Reply{one, two, three}, api.ErrReply}, {[]api.Reply{three, two, one}, api.ErrReply}, {[]api.Reply{two, one, three}, api.ErrReply},
	} {
		if _, code := Encode(Array(c.l...)); code != c.code {
			t.Errorf("Encode %s: %d, not %d", short(Array(c.l...)), code, c.code)
		}
	}
	for deep := 1; deep <= 9; deep++ {
		for below := 1; below <= 9; below++ {
			l := nested(deep, Int(1))
			asSpelled(t, Array(l, nested(below, l)))
			asSpelled(t, Array(nested(below, l), l))
			asSpelled(t, Array(nested(below, l), nested(3, l), l, l))
		}
	}
}

// Encode keeps and changes nothing: the lists stay as they are, with what lies behind their ends, and the bytes are
// the caller's.
func TestP16_1_NothingKeptOrChanged(t *testing.T) {
	behind := api.Reply{Kind: 9, Text: "behind"}
	inner := []api.Reply{Bulk("x"), Null(), behind}
	outer := []api.Reply{Simple("a"), {Kind: 6, List: inner[:2]}, Int(3), behind}
	r := api.Reply{Kind: 6, List: outer[:3]}
	want := "*3\r\n+a\r\n*2\r\n$1\r\nx\r\n$-1\r\n:3\r\n"
	first, _ := Encode(r)
	clear(first)
	_ = append(first[:0:cap(first)], strings.Repeat("z", cap(first))...)
	wantBytes(t, r, want)
	if !same(outer[3], behind) || !same(inner[2], behind) || !same(outer[0], Simple("a")) || len(outer[1].List) != 2 || &outer[1].List[0] != &inner[0] {
		t.Errorf("the lists are others now: %s", short(api.Reply{Kind: 6, List: outer}))
	}
	outer[0], inner[0] = Int(0), Bulk("yy")
	wantBytes(t, r, "*3\r\n:0\r\n*2\r\n$2\r\nyy\r\n$-1\r\n:3\r\n")
	a, _ := Encode(r)
	b, _ := Encode(r)
	clear(a)
	if want, _ := spelledEncode(r); string(b) != want {
		t.Errorf("two answers share bytes: %q", b)
	}
}

func TestP16_1_Drawn(t *testing.T) {
	d := rand.New(rand.NewPCG(16, 1))
	codes := map[api.Errno]int{}
	for i := range 60000 {
		r := drawnReply(d, i%12, []int{0, 5, 20, 100}[i%4])
		asSpelled(t, r)
		_, code := spelledEncode(r)
		codes[code]++
	}
	if codes[api.OK] < 1000 || codes[api.ErrReply] < 1000 || codes[api.ErrDeep] < 20 {
		t.Errorf("the drawn replies are not of every sort: %v", codes)
	}
}
