package reply

import (
	"math/big"
	"math/rand/v2"
	"regexp"
	"strconv"
	"strings"
	"testing"

	"pantry/api"
)

// The chapter, word by word and with its own numbers, without a thought of how long it takes.

// fields says which field belongs to which Kind.
var fields = map[int]string{1: "Text", 2: "Text", 3: "Int", 4: "Text", 5: "", 6: "List", 7: ""}

func spelledWrong(r api.Reply) bool {
	field, known := fields[r.Kind]
	if !known || field != "Text" && r.Text != "" || field != "Int" && r.Int != 0 || field != "List" && len(r.List) > 0 {
		return true
	}
	if (r.Kind == 1 || r.Kind == 2) && (strings.Contains(r.Text, "\x0d") || strings.Contains(r.Text, "\x0a")) {
		return true
	}
	for _, in := range r.List {
		if spelledWrong(in) {
			return true
		}
	}
	return false
}

func spelledDepth(r api.Reply) int {
	if r.Kind != 6 {
		return 0
	}
	deepest := 0
	for _, in := range r.List {
		deepest = max(deepest, spelledDepth(in))
	}
	return 1 + deepest
}

func spelledBytes(r api.Reply) string {
	switch r.Kind {
	case 1:
		return "+" + r.Text + "\x0d\x0a"
	case 2:
		return "-" + r.Text + "\x0d\x0a"
	case 3:
		return ":" + big.NewInt(r.Int).String() + "\x0d\x0a"
	case 4:
		return "$" + strconv.Itoa(len(r.Text)) + "\x0d\x0a" + r.Text + "\x0d\x0a"
	case 5:
		return "$-1\x0d\x0a"
	case 7:
		return "*-1\x0d\x0a"
	}
	var all strings.Builder
	all.WriteString("*" + strconv.Itoa(len(r.List)) + "\x0d\x0a")
	for _, in := range r.List {
		all.WriteString(spelledBytes(in))
	}
	return all.String()
}

func spelledEncode(r api.Reply) (string, api.Errno) {
	if spelledWrong(r) {
		return "", api.ErrReply
	}
	if spelledDepth(r) > 8 {
		return "", api.ErrDeep
	}
	s := spelledBytes(r)
	if len(s) > 16777216 {
		return "", api.ErrLong
	}
	return s, api.OK
}

// broken is what went wrong first: nothing behind it is read.
type broken api.Errno

func spelledDecode(b string) (r api.Reply, n int, code api.Errno) {
	defer func() {
		if went := recover(); went != nil {
			r, n, code = api.Reply{}, 0, api.Errno(went.(broken))
		}
	}()
	r, n = spelledReply(b, 0, 0)
	if n > 16777216 {
		panic(broken(api.ErrLong))
	}
	return r, n, api.OK
}

// spelledReply reads the reply at a place, which lies within so many arrays, and tells the place behind it.
func spelledReply(b string, at, within int) (api.Reply, int) {
	if at == len(b) {
		panic(broken(api.ErrShort))
	}
	first := b[at]
	if first != '+' && first != '-' && first != ':' && first != '$' && first != '*' {
		panic(broken(api.ErrReply))
	}
	line, at := spelledLine(b, at+1)
	switch {
	case first == '+':
		return api.Reply{Kind: 1, Text: line}, at
	case first == '-':
		return api.Reply{Kind: 2, Text: line}, at
	case first == ':':
		return api.Reply{Kind: 3, Int: spelledInt(line)}, at
	case first == '$' && line == "-1":
		return api.Reply{Kind: 5}, at
	case first == '*' && line == "-1":
		return api.Reply{Kind: 7}, at
	}
	size := spelledInt(line)
	if size < 0 {
		panic(broken(api.ErrReply))
	}
	if size > 16777216 {
		panic(broken(api.ErrLong))
	}
	if first == '$' {
		return spelledText(b, at, int(size))
	}
	if within >= 8 {
		panic(broken(api.ErrDeep))
	}
	r := api.Reply{Kind: 6}
	for int64(len(r.List)) < size {
		var in api.Reply
		in, at = spelledReply(b, at, within+1)
		r.List = append(r.List, in)
	}
	return r, at
}

func spelledLine(b string, from int) (string, int) {
	at := from
	for at < len(b) && b[at] != 13 && b[at] != 10 {
		at++
	}
	if at == len(b) || b[at] == 13 && at == len(b)-1 {
		panic(broken(api.ErrShort))
	}
	if b[at] != 13 || b[at+1] != 10 {
		panic(broken(api.ErrReply))
	}
	return b[from:at], at + 2
}

var wholeNumber = regexp.MustCompile(`\A(0|-?[1-9][0-9]{0,18})\z`)

func spelledInt(line string) int64 {
	n, ok := new(big.Int).SetString(line, 10)
	if !ok || !wholeNumber.MatchString(line) || !n.IsInt64() {
		panic(broken(api.ErrReply))
	}
	return n.Int64()
}

func spelledText(b string, at, size int) (api.Reply, int) {
	if len(b)-at < size+2 {
		panic(broken(api.ErrShort))
	}
	if b[at+size] != 13 || b[at+size+1] != 10 {
		panic(broken(api.ErrReply))
	}
	return api.Reply{Kind: 4, Text: b[at : at+size]}, at + size + 2
}

func spelledRequest(words []string) string {
	s := "*" + strconv.Itoa(len(words)) + "\x0d\x0a"
	for _, word := range words {
		s += spelledBytes(api.Reply{Kind: 4, Text: word})
	}
	return s
}

// same takes an empty List for none.
func same(a, b api.Reply) bool {
	if a.Kind != b.Kind || a.Text != b.Text || a.Int != b.Int || len(a.List) != len(b.List) {
		return false
	}
	for i := range a.List {
		if !same(a.List[i], b.List[i]) {
			return false
		}
	}
	return true
}

// short tells a reply so that a test's words stay readable.
func short(r api.Reply) string {
	s := strconv.Itoa(r.Kind)
	if r.Text != "" {
		s += " " + cut(r.Text)
	}
	if r.Int != 0 {
		s += " " + strconv.FormatInt(r.Int, 10)
	}
	for i, in := range r.List {
		if i == 4 {
			return "(" + s + " and so on, " + strconv.Itoa(len(r.List)) + ")"
		}
		s += " " + short(in)
	}
	return "(" + s + ")"
}

func cut(s string) string {
	if len(s) <= 80 {
		return strconv.Quote(s)
	}
	return strconv.Quote(s[:40]) + " .. " + strconv.Quote(s[len(s)-20:]) + " (" + strconv.Itoa(len(s)) + " bytes)"
}

func wantBytes(t *testing.T, r api.Reply, want string) {
	t.Helper()
	if b, code := Encode(r); code != api.OK || string(b) != want {
		t.Fatalf("Encode %s: %s %d, not %s", short(r), cut(string(b)), code, cut(want))
	}
}

func wantRefused(t *testing.T, r api.Reply, want api.Errno) {
	t.Helper()
	if b, code := Encode(r); code != want || b != nil {
		t.Fatalf("Encode: %s %d, not %d", cut(string(b)), code, want)
	}
}

// asSpelled holds Encode of a reply against the chapter.
func asSpelled(t *testing.T, r api.Reply) {
	t.Helper()
	if s, code := spelledEncode(r); code == api.OK {
		wantBytes(t, r, s)
	} else {
		wantRefused(t, r, code)
	}
}

// behinds lie in the room behind the bytes' end: they would make a reply of what is broken off, or break what is whole.
var behinds = []string{"", "\r\n", "\n", "a\r\n\r\n\r\n", "\x00x\r\n"}

func wantDecode(t *testing.T, b string, want api.Reply, size int, code api.Errno) {
	t.Helper()
	for _, behind := range behinds {
		whole := []byte(b + behind)
		r, n, got := Decode(whole[:len(b)])
		if got != code || n != size || !same(r, want) {
			t.Fatalf("Decode %s: %s %d %d, not %s %d %d", cut(b), short(r), n, got, short(want), size, code)
		}
		if string(whole) != b+behind {
			t.Fatalf("Decode %s changed its bytes", cut(b))
		}
		if len(b) > 1<<16 {
			return
		}
	}
}

func wantRead(t *testing.T, b string, want api.Reply) {
	t.Helper()
	wantDecode(t, b, want, len(b), api.OK)
}

func wantBroken(t *testing.T, b string, code api.Errno) {
	t.Helper()
	wantDecode(t, b, api.Reply{}, 0, code)
}

// readAsSpelled holds Decode of bytes against the chapter.
func readAsSpelled(t *testing.T, b string) {
	t.Helper()
	r, n, code := spelledDecode(b)
	wantDecode(t, b, r, n, code)
}

// nested is arrays in one another, so many, with a list in the innermost.
func nested(deep int, l ...api.Reply) api.Reply {
	r := api.Reply{Kind: api.RpArray, List: l}
	for range deep - 1 {
		r = api.Reply{Kind: api.RpArray, List: []api.Reply{r}}
	}
	return r
}

// good are replies that can be written, of each Kind.
func good() []api.Reply {
	return []api.Reply{
		{Kind: 1}, {Kind: 1, Text: "OK"}, {Kind: 1, Text: "+-:$*"}, {Kind: 1, Text: "\x00\xff\xc3 \x0b\x0c\x0e\u2028\u0085"}, {Kind: 1, Text: "-1"},
		{Kind: 2}, {Kind: 2, Text: api.TxKind}, {Kind: 2, Text: "\x00\xff\xe2\x80 \x09"},
		{Kind: 3}, {Kind: 3, Int: 1}, {Kind: 3, Int: -1}, {Kind: 3, Int: 9223372036854775807}, {Kind: 3, Int: -9223372036854775808}, {Kind: 3, Int: 1000000},
		{Kind: 4}, {Kind: 4, Text: "hi"}, {Kind: 4, Text: "\r\n"}, {Kind: 4, Text: "\r"}, {Kind: 4, Text: "$1\r\na\r\n"}, {Kind: 4, Text: "\xff\x00\xc3\r\xe2\x80\n"}, {Kind: 4, Text: strings.Repeat("long ", 200)},
		{Kind: 5},
		{Kind: 6}, {Kind: 6, List: []api.Reply{}}, {Kind: 6, List: []api.Reply{{Kind: 3, Int: 1}, {Kind: 5}}}, {Kind: 6, List: []api.Reply{{Kind: 6}, {Kind: 7}, {Kind: 6, List: []api.Reply{{Kind: 4, Text: "\r\n"}, {Kind: 1, Text: "a"}}}, {Kind: 2}}}, nested(8), nested(8, api.Reply{Kind: 3, Int: -5}, api.Reply{Kind: 7}),
		{Kind: 7},
	}
}

// drawnReply is one of any shape; of so many it is one that can't be written.
func drawnReply(d *rand.Rand, deep, oneWrongIn int) api.Reply {
	r := api.Reply{Kind: []int{1, 2, 3, 4, 5, 7}[d.IntN(6)]}
	if deep > 0 && d.IntN(3) > 0 {
		r.Kind = 6
	}
	switch fields[r.Kind] {
	case "Text":
		r.Text = drawnText(d, r.Kind == 4)
	case "Int":
		r.Int = int64(d.Uint64()) >> d.IntN(64)
	case "List":
		for range d.IntN(4) {
			r.List = append(r.List, drawnReply(d, deep-1, oneWrongIn))
		}
	}
	if oneWrongIn > 0 && d.IntN(oneWrongIn) == 0 {
		spoil(d, &r)
	}
	return r
}

func drawnText(d *rand.Rand, anyBytes bool) string {
	const signs = "\r\n\r\nab$*:0\x00\xff\xc3 "
	s := make([]byte, d.IntN(14))
	for i := range s {
		s[i] = signs[d.IntN(len(signs))]
	}
	if anyBytes {
		return string(s)
	}
	return strings.ReplaceAll(strings.ReplaceAll(string(s), "\r", ""), "\n", "")
}

func spoil(d *rand.Rand, r *api.Reply) {
	switch d.IntN(4) {
	case 0:
		r.Kind = d.IntN(12) - 2
	case 1:
		r.Int = int64(d.IntN(3)) - 1
	case 2:
		r.Text += drawnText(d, true)
	case 3:
		r.List = append(r.List, api.Reply{Kind: 3})
	}
}
