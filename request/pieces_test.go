package request

import (
	"math/rand/v2"
	"slices"
	"strconv"
	"strings"
	"testing"
	"time"

	"pantry/reply"
)

// Every short row of signs, behind what begins a line, a header, a word or a word's end.
func TestP17_6_EveryShortRow(t *testing.T) {
	for _, ahead := range []string{"", "*1\r\n", "*2\r\n$1\r\na\r\n", "*1\r\n$2\r\n", "*", "*1\r\n$"} {
		for size := range 5 {
			everyRow("*$012-\r\na", size, func(row string) { asSpelled(t, ahead+row) })
		}
	}
	for _, ahead := range []string{"*1\r\n$1\r\na", "*1\r\n$1", "*1", "\"a"} {
		everyRow("\r\n*$1\"", 5, func(row string) { asSpelled(t, ahead+row) })
	}
	everyRow("*$1\r\n", 7, func(row string) { asSpelled(t, row) })
	everyRow("'\" a\r\n", 5, func(row string) { asSpelled(t, row+"\n") })
}

// rows are some requests of each kind, and what is wrong behind some of them.
func rows() []string {
	return []string{
		"*2\r\n$3\r\nGET\r\n$1\r\nk\r\n*0\r\n*-1\r\nPING\r\n\r\n  SET a  1\n*1\r\n$0\r\n\r\n*1\r\n$2\r\n\r\n\r\n*1\r\n$4\r\nPI",
		"PING\r\n*x\r\nPING\r\n",
		"a 'b c' \"\\x41\\n\"\r\n\n*3\r\n$1\r\n*\r\n$1\r\n$\r\n$6\r\n\r\n*1\r\n\r\n'\n*1\r\n$1\r\na\r\n",
		"*1\r\n$10\r\n0123456789\r\n*2\r\n$0\r\n\r\n$0\r\n\rx\n",
		"*1\r\n$5\r\n\n\n\r\n\r\r\n\r\n*1\r\n$1\r\na\n\r",
		"*12\r\n" + strings.Repeat("$1\r\na\r\n", 12) + "*1\n",
		strings.Repeat("*-1\r\n", 5) + "*2\r\n$2\r\nab\r\n$",
	}
}

// pieced feeds bytes that are cut at places, asking between for what the bits say; at the end all is as spelled.
func pieced(t *testing.T, b string, ask uint64, places ...int) {
	t.Helper()
	p := New()
	var told [][]string
	from := 0
	for i, to := range append(slices.Clone(places), len(b)) {
		feed(t, p, b[from:to])
		from = to
		bits := ask >> (3 * i)
		if bits&1 > 0 {
			p.Err()
		}
		if bits&2 > 0 {
			if words, ok := p.Next(); ok {
				told = append(told, words)
			}
		}
		if bits&4 > 0 {
			p.Held()
			p.Err()
			told = append(told, all(t, p)...)
		}
	}
	s := spelledOf(b)
	wantState(t, p, b, s.err, s.held)
	wantCommands(t, b, append(told, all(t, p)...), s.commands)
	wantState(t, p, b, s.err, s.held)
}

func TestP17_6_CutAtEveryPlace(t *testing.T) {
	for _, b := range rows() {
		asSpelled(t, b)
		for i := range len(b) + 1 {
			for ask := range uint64(64) {
				pieced(t, b, ask, i)
			}
			for j := i; j <= len(b); j++ {
				pieced(t, b, 0, i, j)
				pieced(t, b, 0o222, i, j)
				pieced(t, b, 0o524, i, j)
			}
		}
	}
}

func TestP17_6_PiecesOfEachSize(t *testing.T) {
	for _, b := range rows() {
		for size := 1; size <= len(b); size++ {
			var places []int
			for at := size; at < len(b); at += size {
				places = append(places, at)
			}
			for _, ask := range []uint64{0, 0x5555555555555555, 0xffffffffffffffff, 0o222222222222222222222, 0o404040404040404040404} {
				pieced(t, b, ask, places...)
			}
		}
	}
}

// drawnRequest is one of any kind; now and then one that is wrong.
func drawnRequest(d *rand.Rand) string {
	switch d.IntN(12) {
	case 0:
		return []string{"*0\r\n", "*-1\r\n", "\n", "\r\n", " \t\r\n"}[d.IntN(5)]
	case 1, 2, 3, 4:
		return drawnLine(d) + []string{"\n", "\r\n"}[d.IntN(2)]
	case 5:
		if d.IntN(4) > 0 {
			return ""
		}
		return spoilt(d, counted(drawnWords(d)...))
	}
	return counted(drawnWords(d)...)
}

func drawnWords(d *rand.Rand) []string {
	words := make([]string, 1+d.IntN(5))
	for i := range words {
		words[i] = drawnSigns(d, "\r\n\r\nab$*:01\x00\xff\xc3 '\"\\", d.IntN(12))
		if d.IntN(50) == 0 {
			words[i] = strings.Repeat(words[i], d.IntN(700))
		}
	}
	return words
}

// spoilt has a byte changed, one too few, or one too many.
func spoilt(d *rand.Rand, b string) string {
	at := d.IntN(len(b))
	one := drawnSigns(d, "\r\n0129-$*a", 1)
	switch d.IntN(3) {
	case 0:
		return b[:at] + one + b[at+1:]
	case 1:
		return b[:at] + b[at+1:]
	}
	return b[:at] + one + b[at:]
}

func TestP17_6_DrawnBytes(t *testing.T) {
	d := rand.New(rand.NewPCG(17, 6))
	for range 4000 {
		var b strings.Builder
		for range d.IntN(12) {
			b.WriteString(drawnRequest(d))
		}
		row := b.String()
		row = row[:len(row)-min(len(row), d.IntN(6)*d.IntN(2))]
		if len(row) < 500 {
			asSpelled(t, row)
		}
		for range 5 {
			places := make([]int, d.IntN(20))
			for i := range places {
				places[i] = d.IntN(len(row) + 1)
			}
			slices.Sort(places)
			pieced(t, row, d.Uint64(), places...)
		}
	}
}

// Words are told as they were, whatever whole requests stand ahead, and whatever stands behind.
func TestP17_7_ThereAndBack(t *testing.T) {
	d := rand.New(rand.NewPCG(17, 7))
	aheads := []string{"", "PING\r\n", "\n", "*0\r\n", "*-1\r\n", counted("a", "\r\n"), "'\\'' \"\\\"\"\n", counted(slices.Repeat([]string{""}, 1024)...)}
	behinds := []string{"", "\r\n", "\n", "x", "*", "*x\r\n", "*1\r\n$", "$1\r\na\r\n", "PING\r\n", "'\n", strings.Repeat("a", 5000)}
	for range 400 {
		words := drawnWords(d)
		request := string(reply.Request(words))
		for _, ahead := range aheads {
			first := spelledOf(ahead).commands
			for _, behind := range behinds {
				p := New()
				feed(t, p, ahead+request+behind)
				got := all(t, p)
				if len(got) <= len(first) || !slices.Equal(got[len(first)], words) {
					t.Fatalf("%s: %s, not %q", cut(ahead+request+behind), short(got), words)
				}
			}
		}
	}
}

// Up to the limits: so many words, a word so long, so many bytes together.
func TestP17_7_Great(t *testing.T) {
	long := strings.Repeat("\r\n", 1<<19)
	for _, words := range [][]string{
		{long}, {long, long, long, long}, {"", long, long, long, long, ""}, {long[1:], "\n", long, long, long},
		slices.Repeat([]string{strings.Repeat("\n", 4096)}, 1024), append(slices.Repeat([]string{""}, 1020), long, long, long, long), slices.Repeat([]string{"a"}, 1024),
	} {
		request := string(reply.Request(words))
		for _, size := range []int{1 << 24, 1 << 20, 65537, 4099} {
			p := New()
			for at := 0; at < len(request); at += size {
				feed(t, p, request[at:min(at+size, len(request))])
			}
			wantState(t, p, request, nil, 0)
			wantCommands(t, request, all(t, p), [][]string{words})
		}
	}
}

// Byte by byte it takes little more than at once, whatever is asked between.
func TestP17_6_Times(t *testing.T) {
	long := strings.Repeat("x", 1<<20)
	whole := string(reply.Request([]string{long, long, long, long})) + strings.Repeat(strings.Repeat("a", 4096)+"\n", 100) + string(reply.Request(slices.Repeat([]string{"ab"}, 1024)))
	within(t, 20*time.Second, func() {
		p := New()
		b := []byte(whole)
		told := 0
		for i := range b {
			p.Feed(b[i : i+1])
			if p.Err() != nil || p.Held() > len(b) {
				t.Fatal(p.Err(), p.Held())
			}
			if _, ok := p.Next(); ok {
				told++
			}
		}
		if told != 102 {
			t.Errorf("%d commands", told)
		}
	})
	within(t, 20*time.Second, func() { wantAll(t, strings.Repeat("\n", 1<<24), nil, 0) })
	within(t, 20*time.Second, func() { wantAll(t, strings.Repeat("*0\r\n", 1<<22), nil, 0) })
	// Many commands wait, and while one is told one more comes.
	within(t, 20*time.Second, func() {
		p := New()
		for i := range 200000 {
			p.Feed([]byte("GET " + strconv.Itoa(i) + "\r\n"))
		}
		for i := range 400000 {
			words, ok := p.Next()
			if !ok || words[1] != strconv.Itoa(i) {
				t.Fatal(i, words)
			}
			p.Feed([]byte("GET " + strconv.Itoa(200000+i) + "\r\n"))
		}
	})
}
