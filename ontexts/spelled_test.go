package ontexts

import (
	"fmt"
	"math/big"
	"regexp"
	"slices"
	"strconv"
	"strings"
	"testing"

	"pantry/api"
	"pantry/deque"
	"pantry/draw"
	"pantry/flock"
	"pantry/keyspace"
	"pantry/rank"
	"pantry/record"
	"pantry/score"
	"pantry/value"
)

// How many words each command of this layer takes, by chapter 18: below 0 at least so many.
const arities = `
GET 2 SET -3 SETNX 3 GETSET 3 GETDEL 2 MGET -2 MSET -3 MSETNX -3 APPEND 3 STRLEN 2
INCR 2 DECR 2 INCRBY 3 DECRBY 3 INCRBYFLOAT 3 GETRANGE 4 SETRANGE 4 GETBIT 3 SETBIT 4 BITCOUNT -2
`

// commands are this layer's, each with how many words it takes.
var commands = func() map[string]int {
	l := strings.Fields(arities)
	m := map[string]int{}
	for i := 0; i < len(l); i += 2 {
		m[l[i]], _ = strconv.Atoi(l[i+1])
	}
	return m
}()

// names are the commands', rising.
var names = func() []string {
	var l []string
	for name := range commands {
		l = append(l, name)
	}
	slices.Sort(l)
	return l
}()

// spelled does a command as the chapter says it, word by word; of a space it asks just those calls that are named there.
type spelled struct {
	s     *keyspace.Space
	words []string
}

func capitals(s string) string {
	b := []byte(s)
	for i := range b {
		if 'a' <= b[i] && b[i] <= 'z' {
			b[i] -= 32
		}
	}
	return string(b)
}

// asSpelled is the chapter's Do.
func asSpelled(s *keyspace.Space, words []string) (api.Result, bool) {
	if len(words) == 0 || len(words) > 1024 {
		return api.Result{}, false
	}
	bytes := 0
	for _, w := range words {
		if len(w) > 1048576 {
			return api.Result{}, false
		}
		bytes += len(w)
	}
	arity, ok := commands[capitals(words[0])]
	if bytes > 4194304 || !ok || arity > 0 && len(words) != arity || arity < 0 && len(words) < -arity {
		return api.Result{}, false
	}
	return spelled{s, words}.row(capitals(words[0])), true
}

func (m spelled) row(name string) api.Result {
	switch name {
	case "SET":
		return m.set()
	case "SETNX", "GETSET", "GETDEL", "GET", "STRLEN":
		return m.whole(name)
	case "MGET", "MSET", "MSETNX":
		return m.several(name)
	case "INCR", "DECR", "INCRBY", "DECRBY":
		return m.number(name)
	case "INCRBYFLOAT":
		return m.float()
	case "APPEND", "SETRANGE", "GETRANGE":
		return m.part(name)
	}
	return m.bits(name)
}

func failed(text string) api.Result { return api.Result{Reply: api.Reply{Kind: 2, Text: text}} }
func integer(n int) api.Reply       { return api.Reply{Kind: 3, Int: int64(n)} }
func bulkOf(s string) api.Reply     { return api.Reply{Kind: 4, Text: s} }
func okay() api.Reply               { return api.Reply{Kind: 1, Text: "OK"} }
func null() api.Reply               { return api.Reply{Kind: 5} }
func only(r api.Reply) api.Result   { return api.Result{Reply: r} }

func bulkOrNull(s string, there bool) api.Reply {
	if there {
		return bulkOf(s)
	}
	return null()
}

// own is a result with the one effect that most have.
func (m spelled) own(r api.Reply) api.Result {
	return api.Result{Reply: r, Effects: [][]string{append([]string{}, m.words...)}}
}

// text is Look of the key, where a text is asked for.
func (m spelled) text() (text string, there, kind bool) {
	v, there := m.s.Look(m.words[1])
	if !there {
		return "", false, true
	}
	text, kind = v.AsText()
	return text, true, kind
}

func (m spelled) written(key, text string) { m.s.Put(key, value.Text(text)) }

func (m spelled) writtenOver(text string) {
	at, had := m.s.Deadline(m.words[1])
	m.s.Put(m.words[1], value.Text(text))
	if had {
		m.s.SetDeadline(m.words[1], at)
	}
}

var wholeNumber = regexp.MustCompile(`\A(0|-?[1-9][0-9]{0,18})\z`)

// whole64 is a word that digit.Int takes.
func whole64(word string) (*big.Int, bool) {
	if len(word) > 20 || !wholeNumber.MatchString(word) {
		return nil, false
	}
	n, _ := new(big.Int).SetString(word, 10)
	return n, n.IsInt64()
}

func (m spelled) whole(name string) api.Result {
	if name == "SETNX" {
		if _, there := m.s.Look(m.words[1]); there {
			return only(integer(0))
		}
		m.written(m.words[1], m.words[2])
		return m.own(integer(1))
	}
	text, there, kind := m.text()
	if !kind {
		return failed(api.TxKind)
	}
	switch {
	case name == "STRLEN":
		return only(integer(len(text)))
	case name == "GETSET":
		m.written(m.words[1], m.words[2])
		return m.own(bulkOrNull(text, there))
	case name == "GETDEL" && there:
		m.s.Delete(m.words[1])
		return m.own(bulkOf(text))
	}
	return only(bulkOrNull(text, there))
}

func (m spelled) several(name string) api.Result {
	if name == "MGET" {
		l := []api.Reply{}
		for _, key := range m.words[1:] {
			x := null()
			if v, there := m.s.Look(key); there && v.Kind() == api.KdText {
				x = bulkOf(v.Plain().Text)
			}
			l = append(l, x)
		}
		return only(api.Reply{Kind: 6, List: l})
	}
	pairs := m.words[1:]
	if len(pairs)%2 != 0 {
		return failed(api.TxSyntax)
	}
	there := 0
	for i, w := range pairs {
		if name == "MSETNX" && i%2 == 0 {
			if _, ok := m.s.Look(w); ok {
				there++
			}
		}
	}
	if there > 0 {
		return only(integer(0))
	}
	for len(pairs) > 0 {
		m.written(pairs[0], pairs[1])
		pairs = pairs[2:]
	}
	if name == "MSET" {
		return m.own(okay())
	}
	return m.own(integer(1))
}

func (m spelled) number(name string) api.Result {
	n := big.NewInt(1)
	if len(m.words) == 3 {
		var ok bool
		if n, ok = whole64(m.words[2]); !ok {
			return failed(api.TxInt)
		}
	}
	text, there, kind := m.text()
	if !kind {
		return failed(api.TxKind)
	}
	if !there {
		text = "0"
	}
	held, ok := whole64(text)
	if !ok {
		return failed(api.TxInt)
	}
	sum := new(big.Int)
	if strings.HasPrefix(name, "INCR") {
		sum.Add(held, n)
	} else {
		sum.Sub(held, n)
	}
	if !sum.IsInt64() {
		return failed(api.TxOver)
	}
	m.writtenOver(sum.String())
	return m.own(api.Reply{Kind: 3, Int: sum.Int64()})
}

func (m spelled) float() api.Result {
	n, code := score.Parse(m.words[2])
	if code != api.OK {
		return failed(api.TxFloat)
	}
	text, there, kind := m.text()
	if !kind {
		return failed(api.TxKind)
	}
	if !there {
		text = "0"
	}
	held, code := score.Parse(text)
	if code != api.OK {
		return failed(api.TxFloat)
	}
	sum, code := score.Add(held, n)
	if code != api.OK {
		return failed(api.TxFloatOut)
	}
	m.writtenOver(score.Print(sum))
	return m.own(bulkOf(score.Print(sum)))
}

// stretchOf is a text's bytes from a place to another, as P1.8 says it.
func stretchOf(text string, start, stop *big.Int) string {
	from := func(n *big.Int) *big.Int {
		if n.Sign() < 0 {
			return new(big.Int).Add(n, big.NewInt(int64(len(text))))
		}
		return n
	}
	start, stop = from(start), from(stop)
	var b []byte
	for i := range len(text) {
		if at := big.NewInt(int64(i)); at.Cmp(start) >= 0 && at.Cmp(stop) <= 0 {
			b = append(b, text[i])
		}
	}
	return string(b)
}

func (m spelled) part(name string) api.Result {
	if name == "APPEND" {
		text, _, kind := m.text()
		if !kind {
			return failed(api.TxKind)
		}
		if len(text)+len(m.words[2]) > 1048576 {
			return failed(api.TxLong)
		}
		m.writtenOver(text + m.words[2])
		return m.own(integer(len(text) + len(m.words[2])))
	}
	first, ok := whole64(m.words[2])
	if !ok {
		return failed(api.TxInt)
	}
	if name == "GETRANGE" {
		second, ok := whole64(m.words[3])
		if !ok {
			return failed(api.TxInt)
		}
		text, _, kind := m.text()
		if !kind {
			return failed(api.TxKind)
		}
		return only(bulkOf(stretchOf(text, first, second)))
	}
	if first.Sign() < 0 {
		return failed(api.TxInt)
	}
	text, _, kind := m.text()
	if !kind {
		return failed(api.TxKind)
	}
	if m.words[3] == "" {
		return only(integer(len(text)))
	}
	if end := new(big.Int).Add(first, big.NewInt(int64(len(m.words[3])))); end.Cmp(big.NewInt(1048576)) > 0 {
		return failed(api.TxLong)
	}
	b := []byte(text)
	for i := range len(m.words[3]) {
		for len(b) <= int(first.Int64())+i {
			b = append(b, 0)
		}
		b[int(first.Int64())+i] = m.words[3][i]
	}
	m.writtenOver(string(b))
	return m.own(integer(len(b)))
}

// bitsOf are a text's bits, each as a digit 0 or 1.
func bitsOf(text string) string {
	s := ""
	for i := range len(text) {
		s += fmt.Sprintf("%08b", text[i])
	}
	return s
}

func (m spelled) bits(name string) api.Result {
	if name == "BITCOUNT" {
		return m.bitcount()
	}
	at, ok := whole64(m.words[2])
	if !ok || at.Sign() < 0 || at.Cmp(big.NewInt(1073741823)) > 0 {
		return failed(api.TxInt)
	}
	if name == "SETBIT" && m.words[3] != "0" && m.words[3] != "1" {
		return failed(api.TxInt)
	}
	text, _, kind := m.text()
	if !kind {
		return failed(api.TxKind)
	}
	b := []byte(text)
	i, mask := int(at.Int64()/8), byte(128)
	for range at.Int64() % 8 {
		mask /= 2
	}
	was := 0
	if i < len(b) && b[i]&mask != 0 {
		was = 1
	}
	if name == "GETBIT" {
		return only(integer(was))
	}
	if i >= 1048576 {
		return failed(api.TxLong)
	}
	for len(b) <= i {
		b = append(b, 0)
	}
	b[i] &= 255 - mask
	if m.words[3] == "1" {
		b[i] += mask
	}
	m.writtenOver(string(b))
	return m.own(integer(was))
}

func (m spelled) bitcount() api.Result {
	stretch := m.words[2:]
	if len(stretch) == 1 || len(stretch) > 2 {
		return failed(api.TxSyntax)
	}
	start, stop := big.NewInt(0), big.NewInt(-1)
	if len(stretch) == 2 {
		var ok bool
		if start, ok = whole64(stretch[0]); !ok {
			return failed(api.TxInt)
		}
		if stop, ok = whole64(stretch[1]); !ok {
			return failed(api.TxInt)
		}
	}
	text, _, kind := m.text()
	if !kind {
		return failed(api.TxKind)
	}
	return only(integer(strings.Count(bitsOf(stretchOf(text, start, stop)), "1")))
}

// spelledOptions are SET's words behind the text, each with what stands behind it, and the time.
type spelledOptions struct {
	seen map[string]bool
	time *big.Int
}

// read reads them from the left; the error of the first that is wrong.
func (m spelled) read() (spelledOptions, string) {
	o := spelledOptions{seen: map[string]bool{}}
	words := m.words[3:]
	for i := 0; i < len(words); i++ {
		w := capitals(words[i])
		lives := o.seen["KEEPTTL"] || o.seen["EX"] || o.seen["PX"] || o.seen["EXAT"] || o.seen["PXAT"]
		switch w {
		default:
			return o, api.TxSyntax
		case "NX", "XX":
			if o.seen["NX"] || o.seen["XX"] {
				return o, api.TxSyntax
			}
		case "GET":
			if o.seen["GET"] {
				return o, api.TxSyntax
			}
		case "KEEPTTL":
			if lives {
				return o, api.TxSyntax
			}
		case "EX", "PX", "EXAT", "PXAT":
			if lives || i == len(words)-1 {
				return o, api.TxSyntax
			}
			i++
			n, ok := whole64(words[i])
			if !ok {
				return o, api.TxInt
			}
			o.time = m.timeOf(w, n)
			if n.Sign() <= 0 || o.time.Cmp(big.NewInt(9007199254740992)) > 0 {
				return o, api.TxExpire
			}
		}
		o.seen[w] = true
	}
	return o, ""
}

func (m spelled) timeOf(option string, n *big.Int) *big.Int {
	clock, thousand := big.NewInt(m.s.Now()), big.NewInt(1000)
	switch option {
	case "EX":
		return new(big.Int).Add(clock, new(big.Int).Mul(n, thousand))
	case "PX":
		return new(big.Int).Add(clock, n)
	case "EXAT":
		return new(big.Int).Mul(n, thousand)
	}
	return n
}

func (m spelled) set() api.Result {
	o, wrong := m.read()
	if wrong != "" {
		return failed(wrong)
	}
	text, there, kind := m.text()
	if o.seen["GET"] && !kind {
		return failed(api.TxKind)
	}
	var answer api.Reply
	done := !(o.seen["NX"] && there) && !(o.seen["XX"] && !there)
	if o.seen["GET"] {
		answer = bulkOrNull(text, there)
	} else if done {
		answer = okay()
	} else {
		answer = null()
	}
	key, next := m.words[1], m.words[2]
	switch {
	case !done:
		return only(answer)
	case o.time != nil && o.time.Cmp(big.NewInt(m.s.Now())) <= 0:
		if !there {
			return only(answer)
		}
		m.s.Delete(key)
		return api.Result{Reply: answer, Effects: [][]string{{"DEL", key}}}
	case o.seen["KEEPTTL"]:
		m.writtenOver(next)
		return m.own(answer)
	}
	m.written(key, next)
	if o.time == nil {
		return m.own(answer)
	}
	m.s.SetDeadline(key, o.time.Int64())
	return api.Result{Reply: answer, Effects: [][]string{{"SET", key, next, "PXAT", o.time.String()}}}
}

// both are two spaces to which the same is done: to the one by Do, to the other as it is spelled.
type both struct {
	t         *testing.T
	got, want *keyspace.Space
}

func newBoth(t *testing.T, seed uint64) both {
	t.Helper()
	return both{t, space(t, seed), space(t, seed)}
}

// each does something to both that is no command.
func (b both) each(f func(s *keyspace.Space)) {
	f(b.got)
	f(b.want)
}

// do does a command in both, and holds what came of it against what is spelled.
func (b both) do(words ...string) api.Result {
	b.t.Helper()
	handed := append(slices.Clone(words), "room", "behind")
	r := draw.New([]uint64{3, 1, 4})
	got, ok := Do(b.got, r, handed[:len(words)])
	want, wantOk := asSpelled(b.want, words)
	if ok != wantOk || !sameResult(got, want) {
		b.t.Fatalf("%s: %s, %v, want %s, %v", brief(words), line(got), ok, line(want), wantOk)
	}
	if !slices.Equal(handed, append(slices.Clone(words), "room", "behind")) {
		b.t.Fatalf("%s: the words were changed: %s", brief(words), brief(handed))
	}
	if r.Left() != 3 {
		b.t.Fatalf("%s: something was drawn", brief(words))
	}
	return got
}

// hold holds both spaces against one another, as far as that changes nothing in them.
func (b both) hold(what string) {
	b.t.Helper()
	if got, want := b.got.Stored(), b.want.Stored(); !slices.EqualFunc(got, want, sameStored) {
		b.t.Fatalf("%s: stored: %s, want %s", what, showStored(got), showStored(want))
	}
	if got, want := b.got.Used(), b.want.Used(); got != want {
		b.t.Fatalf("%s: Used: %d, want %d", what, got, want)
	}
	if got, want := b.got.Touched(), b.want.Touched(); !slices.Equal(got, want) {
		b.t.Fatalf("%s: Touched: %q, want %q", what, got, want)
	}
	if got, want := b.got.Steps(), b.want.Steps(); !slices.Equal(got, want) {
		b.t.Fatalf("%s: Steps: %v, want %v", what, got, want)
	}
}

// lie holds against one another how both lie in their tables, and when each key was used. Past keys go by that. What a
// great number means to Sample hangs on how many buckets there are at all, so a few of them show it.
func (b both) lie(what string) {
	b.t.Helper()
	b.hold(what)
	for _, all := range []bool{true, false} {
		for r := uint64(1); r < 1<<60; r = r*11 + 5 {
			got, ok := b.got.Sample(all, r)
			want, wantOk := b.want.Sample(all, r)
			if got != want || ok != wantOk {
				b.t.Fatalf("%s: Sample(%v, %d): %q %v, want %q %v", what, all, r, got, ok, want, wantOk)
			}
		}
	}
	_, got := b.got.Scan(0, 4096)
	if _, want := b.want.Scan(0, 4096); !slices.Equal(got, want) {
		b.t.Fatalf("%s: Scan: %q, want %q", what, got, want)
	}
	for _, key := range b.want.Keys() {
		got, _ := b.got.Stamp(key)
		if want, _ := b.want.Stamp(key); got != want {
			b.t.Fatalf("%s: Stamp(%s): %d, want %d", what, key, got, want)
		}
	}
	b.hold(what)
}

func sameResult(a, b api.Result) bool {
	return sameReply(a.Reply, b.Reply) && slices.EqualFunc(a.Effects, b.Effects, slices.Equal)
}

func sameReply(a, b api.Reply) bool {
	return a.Kind == b.Kind && a.Text == b.Text && a.Int == b.Int && slices.EqualFunc(a.List, b.List, sameReply)
}

func sameStored(a, b api.Stored) bool {
	return a.Key == b.Key && a.Deadline == b.Deadline && samePlain(a.Value, b.Value)
}

func samePlain(a, b api.Plain) bool {
	return a.Kind == b.Kind && a.Text == b.Text && slices.Equal(a.Items, b.Items) && slices.Equal(a.Pairs, b.Pairs) && slices.Equal(a.Ranks, b.Ranks)
}

// line tells a result in short.
func line(r api.Result) string {
	s := short(r.Reply)
	for _, e := range r.Effects {
		s += " | " + brief(e)
	}
	return s
}

// short tells a reply in short: the sign ahead of it is that of its bytes; errors by their names.
func short(r api.Reply) string {
	switch r.Kind {
	case api.RpSimple:
		return "+" + r.Text
	case api.RpError:
		return errorName(r.Text)
	case api.RpInt:
		return ":" + strconv.FormatInt(r.Int, 10)
	case api.RpBulk:
		return "$" + clip(r.Text)
	case api.RpNull:
		return "null"
	case api.RpArray:
		var l []string
		for _, x := range r.List {
			l = append(l, short(x))
		}
		return "[" + strings.Join(l, " ") + "]"
	}
	return fmt.Sprintf("kind %d", r.Kind)
}

func errorName(text string) string {
	switch text {
	case api.TxSyntax:
		return "TxSyntax"
	case api.TxInt:
		return "TxInt"
	case api.TxFloat:
		return "TxFloat"
	case api.TxOver:
		return "TxOver"
	case api.TxLong:
		return "TxLong"
	case api.TxExpire:
		return "TxExpire"
	case api.TxKind:
		return "TxKind"
	case api.TxFloatOut:
		return "TxFloatOut"
	}
	return "-" + text
}

// brief tells words in short; the empty one as two quotes.
func brief(words []string) string {
	var l []string
	for _, w := range words {
		if w == "" {
			w = `""`
		}
		l = append(l, clip(w))
	}
	return strings.Join(l, " ")
}

func clip(s string) string {
	if len(s) > 60 {
		return s[:20] + ".. (" + strconv.Itoa(len(s)) + " bytes)"
	}
	return s
}

func showStored(l []api.Stored) string {
	s := ""
	for _, x := range l {
		s += fmt.Sprintf("%s: %d %q %d, %d; ", clip(x.Key), x.Value.Kind, clip(x.Value.Text), len(x.Value.Items)+len(x.Value.Pairs)+len(x.Value.Ranks), x.Deadline)
	}
	return s
}

// other is a value of each kind that is no text, with something in it.
func other(kind int) *value.Value {
	switch kind {
	case api.KdList:
		d := deque.New()
		d.Push(false, "a")
		return value.List(d)
	case api.KdRecord:
		r := record.New(7)
		r.Set("a", "1")
		return value.Record(r)
	case api.KdFlock:
		f := flock.New(7)
		f.Add("a")
		return value.Flock(f)
	}
	r := rank.New(7)
	r.Set("a", 1)
	return value.Ranks(r)
}

// space makes an empty one of a seed.
func space(t testing.TB, seed uint64) *keyspace.Space {
	t.Helper()
	s, code := keyspace.New(api.Config{Seed: seed})
	if code != api.OK {
		t.Fatal(code)
	}
	return s
}
