package reply

import (
	"math"
	"math/rand/v2"
	"slices"
	"strings"
	"testing"

	"pantry/api"
)

// texts are of every sort: of each byte, of those that end a line, of those that no text in UTF-8 has.
func texts() []string {
	l := []string{"", "OK", "a b", "\r\n", "\n", "\r", "a\rb\nc", "\r\n\r\n", "é", "\xff", "\xc3\r", "\xe2\x80\n", "\u2028", "\u0085", "\ufffd", "+OK\r\n", "$-1\r\n", strings.Repeat("\r\n", 500), strings.Repeat("long \xff", 500)}
	for b := range 256 {
		l = append(l, string([]byte{byte(b)}), string([]byte{'a', byte(b), 'z'}))
	}
	return l
}

func wantReply(t *testing.T, what string, got, want api.Reply) {
	t.Helper()
	if !same(got, want) {
		t.Errorf("%s: %s, not %s", what, short(got), short(want))
	}
}

func TestP16_3_ChapterExamples(t *testing.T) {
	wantReply(t, "Error", Error("a\rb"), api.Reply{Kind: api.RpError, Text: "a b"})
	wantReply(t, "Simple", Simple("OK"), api.Reply{Kind: api.RpSimple, Text: "OK"})
	wantReply(t, "Int", Int(-7), api.Reply{Kind: api.RpInt, Int: -7})
	wantReply(t, "Bulk", Bulk("hi"), api.Reply{Kind: api.RpBulk, Text: "hi"})
	wantReply(t, "Null", Null(), api.Reply{Kind: api.RpNull})
	wantReply(t, "Array", Array(Int(1), Null()), api.Reply{Kind: api.RpArray, List: []api.Reply{{Kind: api.RpInt, Int: 1}, {Kind: api.RpNull}}})
}

// Simple and Bulk take any text as it is, also one that can't be written.
func TestP16_3_Texts(t *testing.T) {
	for _, s := range texts() {
		wantReply(t, "Simple", Simple(s), api.Reply{Kind: 1, Text: s})
		wantReply(t, "Bulk", Bulk(s), api.Reply{Kind: 4, Text: s})
		blanks := []byte(s)
		for i, c := range blanks {
			if c == 13 || c == 10 {
				blanks[i] = 32
			}
		}
		wantReply(t, "Error", Error(s), api.Reply{Kind: 2, Text: string(blanks)})
		wantBytes(t, Error(s), "-"+string(blanks)+"\r\n")
	}
	for _, s := range []string{api.TxSyntax, api.TxKind, api.TxOom, api.TxProtocol} {
		wantReply(t, "Error", Error(s), api.Reply{Kind: 2, Text: s})
	}
}

func TestP16_3_Ints(t *testing.T) {
	for shift := range 64 {
		for _, n := range []int64{1 << shift, 1<<shift - 1, -1 << shift, 1 - 1<<shift} {
			wantReply(t, "Int", Int(n), api.Reply{Kind: 3, Int: n})
		}
	}
	wantReply(t, "Int", Int(math.MinInt64), api.Reply{Kind: 3, Int: math.MinInt64})
	wantReply(t, "Int", Int(math.MaxInt64), api.Reply{Kind: 3, Int: math.MaxInt64})
}

// Array takes the replies as they are, also those that can't be written.
func TestP16_3_Array(t *testing.T) {
	wantReply(t, "Array of none", Array(), api.Reply{Kind: 6})
	wantReply(t, "Array of nil", Array([]api.Reply(nil)...), api.Reply{Kind: 6})
	wantReply(t, "Array of an empty list", Array(make([]api.Reply, 0, 5)...), api.Reply{Kind: 6})
	all := append(good(), api.Reply{}, api.Reply{Kind: 8, Text: "\n", Int: 5, List: good()}, Simple("\r"), nested(20))
	for n := range len(all) + 1 {
		wantReply(t, "Array", Array(all[:n]...), api.Reply{Kind: 6, List: all[:n]})
	}
	for _, r := range all {
		wantReply(t, "Array of one", Array(r), api.Reply{Kind: 6, List: []api.Reply{r}})
		wantReply(t, "Array of three", Array(r, Int(1), r), api.Reply{Kind: 6, List: []api.Reply{r, {Kind: 3, Int: 1}, r}})
	}
}

// Its List is a new one; the lists of the replies in it are their own.
func TestP16_3_ArraysAreNew(t *testing.T) {
	inner := []api.Reply{Int(1), Int(2)}
	behind := Bulk("behind")
	l := []api.Reply{Int(5), {Kind: 6, List: inner}, behind}
	first, second := Array(l[:2]...), Array(l[:2]...)
	want := Array(Int(5), Array(Int(1), Int(2)))
	l[0], l[1] = Null(), Null()
	wantReply(t, "behind a change of the list", first, want)
	_ = append(first.List, Int(7))
	first.List[0] = Int(8)
	wantReply(t, "the other one", second, want)
	wantReply(t, "what lies behind the list", l[2], behind)
	wantReply(t, "the list", l[0], Null())
	if &first.List[1].List[0] != &inner[0] || &second.List[1].List[0] != &inner[0] {
		t.Error("the lists in it were copied")
	}
}

func TestP16_3_Bulks(t *testing.T) {
	wantReply(t, "of nil", Bulks(nil), api.Reply{Kind: 6})
	wantReply(t, "of none", Bulks([]string{}), api.Reply{Kind: 6})
	wantReply(t, "of empty texts", Bulks([]string{"", ""}), api.Reply{Kind: 6, List: []api.Reply{{Kind: 4}, {Kind: 4}}})
	var want []api.Reply
	for _, s := range texts() {
		want = append(want, api.Reply{Kind: 4, Text: s})
	}
	wantReply(t, "of texts", Bulks(texts()), api.Reply{Kind: 6, List: want})
	l := []string{"a", "b", "behind"}
	first, second := Bulks(l[:2]), Bulks(l[:2])
	l[0] = "x"
	first.List[1] = Null()
	_ = append(first.List, Null())
	wantReply(t, "behind changes", second, Array(Bulk("a"), Bulk("b")))
	wantReply(t, "behind a change of the list", first, Array(Bulk("a"), Null()))
	if !slices.Equal(l, []string{"x", "b", "behind"}) {
		t.Errorf("the list is another now: %q", l)
	}
}

func wantRequest(t *testing.T, words []string, want string) {
	t.Helper()
	kept := slices.Clone(words)
	b := Request(words)
	if string(b) != want {
		t.Errorf("Request %.99q: %s, not %s", words, cut(string(b)), cut(want))
	}
	if !slices.Equal(kept, words) {
		t.Errorf("Request changed its words")
	}
}

func TestP16_4_Request(t *testing.T) {
	wantRequest(t, []string{"GET", "k"}, "*2\r\n$3\r\nGET\r\n$1\r\nk\r\n")
	wantRequest(t, nil, "*0\r\n")
	wantRequest(t, []string{}, "*0\r\n")
	wantRequest(t, []string{""}, "*1\r\n$0\r\n\r\n")
	wantRequest(t, []string{"", "", ""}, "*3\r\n$0\r\n\r\n$0\r\n\r\n$0\r\n\r\n")
	wantRequest(t, []string{"SET", "k", "a\r\nb"}, "*3\r\n$3\r\nSET\r\n$1\r\nk\r\n$4\r\na\r\nb\r\n")
	wantRequest(t, texts(), spelledRequest(texts()))
	for _, s := range texts() {
		wantRequest(t, []string{s}, spelledRequest([]string{s}))
		wantRequest(t, []string{"x", s, s}, spelledRequest([]string{"x", s, s}))
	}
	for _, n := range []int{9, 10, 11, 99, 100, 1023, 1024, 1025, 3000} {
		words := slices.Repeat([]string{"word"}, n)
		wantRequest(t, words, spelledRequest(words))
		wantRequest(t, []string{strings.Repeat("w", n)}, spelledRequest([]string{strings.Repeat("w", n)}))
	}
}

// There may be more words, longer ones, and more bytes in all, than a command or a reply may have.
func TestP16_4_AnyWords(t *testing.T) {
	long := strings.Repeat("w", 16777217)
	wantRequest(t, []string{long}, "*1\r\n$16777217\r\n"+long+"\r\n")
	wantRequest(t, []string{"a", long, "b", long, ""}, "*5\r\n$1\r\na\r\n$16777217\r\n"+long+"\r\n$1\r\nb\r\n$16777217\r\n"+long+"\r\n$0\r\n\r\n")
	if b := Request(make([]string, 3<<20)); string(b) != "*3145728\r\n"+strings.Repeat("$0\r\n\r\n", 3<<20) {
		t.Errorf("Request of many empty words: %s", cut(string(b)))
	}
}

func TestP16_4_NewBytes(t *testing.T) {
	words := []string{"GET", "k", "behind"}
	first, second := Request(words[:2]), Request(words[:2])
	clear(first[:cap(first)])
	if want := "*2\r\n$3\r\nGET\r\n$1\r\nk\r\n"; string(second) != want || string(Request(words[:2])) != want {
		t.Errorf("two answers share bytes: %q", second)
	}
}

// thereAndBack says that what Encode told is read as it was, with any bytes behind it.
func thereAndBack(t *testing.T, r api.Reply) {
	t.Helper()
	b, code := Encode(r)
	if code != api.OK {
		t.Fatalf("Encode %s: %d", short(r), code)
	}
	for _, behind := range []string{"", "\r\n", "x", "+OK\r\n", "$", "\x00\xff"} {
		got, n, code := Decode(append(b[:len(b):len(b)], behind...))
		if code != api.OK || n != len(b) || !same(got, r) {
			t.Fatalf("Decode of Encode %s: %s %d %d", short(r), short(got), n, code)
		}
	}
}

func TestP16_5_ThereAndBack(t *testing.T) {
	for _, r := range good() {
		thereAndBack(t, r)
	}
	thereAndBack(t, Array(append(good()[:26], good()[28:]...)...)) // but for those of eight arrays
	for _, s := range texts() {
		thereAndBack(t, Bulk(s))
		thereAndBack(t, Error(s))
		thereAndBack(t, Array(Bulks([]string{s, s}), Error(s)))
	}
	d := rand.New(rand.NewPCG(16, 5))
	for i := range 40000 {
		if r := drawnReply(d, i%9, 0); spelledDepth(r) <= 8 {
			thereAndBack(t, r)
		}
	}
	for _, r := range exactly(16777216) {
		thereAndBack(t, r)
	}
}

// What can be read is what Encode tells of it: there is no second way to write a reply.
func TestP16_5_BackAndThere(t *testing.T) {
	d := rand.New(rand.NewPCG(16, 55))
	read := 0
	for i := range 60000 {
		b := drawnBytes(d, i%9)
		if r, n, code := Decode([]byte(b)); code == api.OK {
			wantBytes(t, r, b[:n])
			read++
		}
	}
	for _, word := range numbers() {
		for _, b := range []string{":" + word + "\r\n", "$" + word + "\r\na\r\n", "$" + word + "\r\n\r\n", "*" + word + "\r\n", "*" + word + "\r\n:1\r\n"} {
			if r, n, code := Decode([]byte(b)); code == api.OK {
				wantBytes(t, r, b[:n])
				read++
			}
		}
	}
	if read < 10000 {
		t.Errorf("only %d were read", read)
	}
}

func TestP16_6_BrokenOff(t *testing.T) {
	brokenOff := func(r api.Reply) {
		t.Helper()
		b, code := Encode(r)
		if code != api.OK {
			t.Fatalf("Encode %s: %d", short(r), code)
		}
		for n := range b {
			wantBroken(t, string(b[:n]), api.ErrShort)
		}
	}
	for _, r := range good() {
		brokenOff(r)
	}
	brokenOff(Array(append(good()[:20], Array(good()[:20]...))...))
	d := rand.New(rand.NewPCG(16, 6))
	for i := range 1500 {
		if r := drawnReply(d, i%9, 0); spelledDepth(r) <= 8 {
			brokenOff(r)
		}
	}
}

func TestP16_6_BrokenOffFarBehind(t *testing.T) {
	for _, r := range exactly(16777216) {
		b, _ := Encode(r)
		for _, n := range []int{1, 2, 3, 8, len(b) / 2, len(b)/2 + 1, len(b) - 3, len(b) - 2, len(b) - 1} {
			wantBroken(t, string(b[:n]), api.ErrShort)
		}
	}
}

func TestP16_7_Commands(t *testing.T) {
	asReply := func(words []string) {
		t.Helper()
		wantBytes(t, Bulks(words), string(Request(words)))
	}
	asReply(nil)
	asReply([]string{"GET", "k"})
	asReply(texts())
	for _, s := range texts() {
		asReply([]string{s})
		asReply([]string{"", s, "x", s})
	}
	for n := range 1100 {
		asReply(slices.Repeat([]string{"w"}, n))
	}
	d := rand.New(rand.NewPCG(16, 7))
	for range 2000 {
		var words []string
		for range d.IntN(8) {
			words = append(words, drawnText(d, true))
		}
		asReply(words)
		got, n, code := Decode(Request(words))
		if code != api.OK || n != len(Request(words)) || !same(got, Bulks(words)) {
			t.Fatalf("Decode of Request %q: %s %d %d", words, short(got), n, code)
		}
	}
}

// Up to MaxBytes the two are the same; one byte more can be asked for still, but is no reply.
func TestP16_7_JustAtMaxBytes(t *testing.T) {
	words := []string{"SET", "k", strings.Repeat("v", 16777216-33)} // "*3/$3/SET/$1/k/$16777183/" are 31 bytes, and the end 2
	if b := Request(words); len(b) != 16777216 {
		t.Fatalf("%d bytes", len(b))
	}
	wantBytes(t, Bulks(words), string(Request(words)))
	words[2] += "v"
	if b := Request(words); len(b) != 16777217 {
		t.Fatalf("%d bytes", len(b))
	}
	wantRefused(t, Bulks(words), api.ErrLong)
}
