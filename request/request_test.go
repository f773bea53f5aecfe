package request

import (
	"runtime"
	"slices"
	"strconv"
	"strings"
	"testing"
	"time"

	"pantry/api"
)

// counted writes a request by the chapter's own words.
func counted(words ...string) string {
	var b strings.Builder
	b.WriteString("*" + strconv.Itoa(len(words)) + "\r\n")
	for _, word := range words {
		b.WriteString("$" + strconv.Itoa(len(word)) + "\r\n" + word + "\r\n")
	}
	return b.String()
}

func TestP17_2_ChapterExamples(t *testing.T) {
	wantAll(t, "*2\r\n$3\r\nGET\r\n$1\r\nk\r\n", nil, 0, []string{"GET", "k"})
	wantAll(t, "*0\r\n", nil, 0)
	wantAll(t, "*-1\r\n", nil, 0)
	wantAll(t, "PING\r\n", nil, 0, []string{"PING"})
	wantAll(t, "\n", nil, 0)
	wantAll(t, "\r\n", nil, 0)
	wantAll(t, "  SET a  1\n", nil, 0, []string{"SET", "a", "1"})
}

func TestP17_3_ChapterExamples(t *testing.T) {
	wantError(t, "*1025\r\n", ErrCount)
	wantError(t, "*01\r\n", ErrCount)
	wantError(t, "*\r\n", ErrCount)
	wantError(t, "*1\n", ErrEnd)
	wantError(t, "*1\r\n+", ErrMark)
	wantError(t, "*1\r\n$-1\r\n", ErrLength)
	wantError(t, "*1\r\n$1048577\r\n", ErrLength)
	wantError(t, "*1\r\n$1\r\nab", ErrEnd)
	wantError(t, "*"+strings.Repeat("1", 32), ErrTooBig)
	wantError(t, strings.Repeat("a", 4097), ErrTooBig)
	wantAll(t, strings.Repeat("a", 4096)+"\n", nil, 0, []string{strings.Repeat("a", 4096)})
	p := New()
	feed(t, p, "*1\r\n$4\r\nPI")
	wantCommands(t, "PI", all(t, p), nil)
	wantState(t, p, "PI", nil, 10)
	feed(t, p, "NG\r\n")
	wantState(t, p, "PING", nil, 0)
	wantCommands(t, "PING", all(t, p), [][]string{{"PING"}})
}

func TestP17_1_Feed(t *testing.T) {
	p := New()
	wantState(t, p, "nothing", nil, 0)
	if words, ok := p.Next(); ok || len(words) != 0 {
		t.Errorf("Next of nothing: %q", words)
	}
	for range 3 {
		if code := p.Feed(nil); code != api.OK {
			t.Error(code)
		}
		feed(t, p, "")
	}
	wantState(t, p, "nothing", nil, 0)
	feed(t, p, "PI")
	feed(t, p, "")
	wantState(t, p, "PI", nil, 2)
	feed(t, p, "NG\n")
	wantCommands(t, "PING", all(t, p), [][]string{{"PING"}})
}

// One byte too many, and nothing is taken, whatever stands there and whatever came ahead.
func TestP17_1_TooLong(t *testing.T) {
	most := []byte(strings.Repeat("a\n", 1<<23))
	tooLong := append(slices.Clone(most), 'a')
	p := New()
	refused := func(err error, held int) {
		t.Helper()
		if code := p.Feed(tooLong); code != api.ErrLong {
			t.Fatalf("Feed of %d bytes: %d", len(tooLong), code)
		}
		wantState(t, p, "too long", err, held)
	}
	refused(nil, 0)
	feed(t, p, "a\n*1\r\n$4\r\nPI")
	refused(nil, 10)
	wantCommands(t, "a", all(t, p), [][]string{{"a"}})
	refused(nil, 10)
	feed(t, p, "NG\r\n")
	wantCommands(t, "PING", all(t, p), [][]string{{"PING"}})
	if code := p.Feed(most); code != api.OK {
		t.Fatalf("Feed of %d bytes: %d", len(most), code)
	}
	for i := range 1 << 23 {
		if words, ok := p.Next(); !ok || len(words) != 1 || words[0] != "a" {
			t.Fatalf("the command %d: %q %v", i, words, ok)
		}
	}
	wantCommands(t, "behind all", all(t, p), nil)
	feed(t, p, "*x\r\n")
	refused(ErrCount, 0)
	if code := p.Feed(most); code != api.OK {
		t.Errorf("Feed behind an error: %d", code)
	}
	wantState(t, p, "behind an error", ErrCount, 0)
	wantCommands(t, "behind an error", all(t, p), nil)
}

// The bound is that of one Feed: more may wait in all, whether they are commands, or a request that is not there whole.
func TestP17_1_MoreInAll(t *testing.T) {
	p := New()
	blank := []byte(strings.Repeat(strings.Repeat(" ", 4095)+"\n", 1<<12))
	big := strings.Repeat("$1048576\r\n"+strings.Repeat("x", 1<<20)+"\r\n", 4)
	for range 3 {
		if code := p.Feed(blank); code != api.OK {
			t.Fatal(code)
		}
		feed(t, p, "a\n*5\r\n"+big)
		wantState(t, p, "not there whole", nil, 4+len(big))
		feed(t, p, "$0\r\n\r\n")
		wantState(t, p, "there whole", nil, 0)
	}
	for range 3 {
		one, _ := p.Next()
		five, _ := p.Next()
		if !slices.Equal(one, []string{"a"}) || len(five) != 5 || len(five[3]) != 1<<20 {
			t.Fatalf("%q, and %d words", one, len(five))
		}
	}
	wantCommands(t, "behind all", all(t, p), nil)
}

// What is fed is not kept: not its bytes, nor the room behind its end.
func TestP17_1_NotKept(t *testing.T) {
	p := New()
	room := make([]byte, 100)
	whole := counted("SET", "key", "some words") + "GET key\n" + counted("DEL", "k")
	var want [][]string
	for range 20 {
		for at := 0; at < len(whole); at += 7 {
			n := copy(room, whole[at:min(at+7, len(whole))])
			copy(room[n:], "\r\n\r\n*1\r\n$1\r\na\r\n")
			p.Feed(room[:n])
			clear(room)
		}
		want = append(want, []string{"SET", "key", "some words"}, []string{"GET", "key"}, []string{"DEL", "k"})
	}
	wantState(t, p, whole, nil, 0)
	wantCommands(t, whole, all(t, p), want)
}

// Headers of 32 bytes and of 33 ahead of the LF, with a CR and without, of both signs.
func TestP17_3_HeaderLines(t *testing.T) {
	for _, ahead := range []string{"*", "*1\r\n$", "*2\r\n$1\r\na\r\n$", "*1024\r\n$0\r\n\r\n$"} {
		wrong := ErrLength
		if ahead == "*" {
			wrong = ErrCount
		}
		for _, c := range []string{"1", "0", "9", "a", "\r", "$", "*", "\x00", "\xff"} {
			for n := range 31 {
				line := ahead + strings.Repeat(c, n)
				wantAll(t, line, nil, len(line))
				wantAll(t, line+"\r", nil, len(line)+1)
				asSpelled(t, line+"\r\n")
				if c != "\r" || n == 0 {
					wantError(t, line+"\n", ErrEnd)
				}
				if n > 20 || n == 0 {
					wantError(t, line+"\r\n", wrong)
				}
			}
			longest := ahead + strings.Repeat(c, 31)
			wantAll(t, longest, nil, len(longest))
			if c != "\r" {
				wantError(t, longest+"\n", ErrEnd)
			}
			for _, next := range []string{c, "\r", "x", "\x00"} {
				wantError(t, longest+next, ErrTooBig)
			}
		}
		wantError(t, ahead+strings.Repeat("1", 30)+"\r\n", wrong)
		wantError(t, ahead+strings.Repeat("1", 31)+"\r", ErrTooBig)
	}
}

// Only a CR right ahead of the LF will do; what stands between is the number.
func TestP17_3_EndsOfHeaderLines(t *testing.T) {
	for _, ahead := range []string{"*", "*1\r\n$"} {
		wrong := ErrLength
		if ahead == "*" {
			wrong = ErrCount
		}
		for c := range 256 {
			one := string([]byte{byte(c)})
			if c != '\n' {
				if c != '\r' {
					wantError(t, ahead+"1"+one+"\n", ErrEnd)
					wantError(t, ahead+"1\r"+one+"\n", ErrEnd)
				}
				if c < '0' || c > '9' {
					wantError(t, ahead+"1"+one+"\r\n", wrong)
					wantError(t, ahead+"1\r"+one+"\r\n", wrong)
				}
			}
			wantAll(t, ahead+"1\r", nil, len(ahead)+2)
			asSpelled(t, ahead+one+"\r\n")
			asSpelled(t, ahead+"1\r"+one)
		}
		wantError(t, ahead+"\n", ErrEnd)
		wantError(t, ahead+"\r\r\n", wrong)
		wantError(t, ahead+"\n\r\n"[:1], ErrEnd)
	}
}

func numbers() []string {
	l := []string{"", "0", "-0", "+0", "00", "-", "--1", "+", "1", "+1", "-1", "-2", "-3", "01", "-01", "1.0", "1e3", "0x1", " 1", "1 ", "1_0", "1a", "a", "\x00", "1\x00", "\xd9\xa1", "٣", "-1 ", "-10", "-11", "NaN",
		"1022", "1023", "1024", "1025", "1026", "01024", "-1024", "2048", "1048574", "1048575", "1048576", "1048577", "1048578", "-1048576", "4194303", "4194304", "4194305",
		"4294967295", "4294967296", "4294967297", "4294968320", "4296015872", "-4294967295", "2147483648", "9223372036854775807", "9223372036854775808", "-9223372036854775808", "-9223372036854775809",
		"18446744073709551614", "18446744073709551615", "18446744073709551616", "18446744073709551617", "99999999999999999999", "12345678901234567890123456789", "000000000000000000000000000001", "000000000000000000000000000000"}
	for i := range 20 {
		l = append(l, strconv.Itoa(i), strconv.Itoa(-i), "+"+strconv.Itoa(i), "0"+strconv.Itoa(i), strings.Repeat("9", i))
	}
	return l
}

func TestP17_3_Numbers(t *testing.T) {
	for _, n := range numbers() {
		for _, behind := range []string{"", "$", "$0\r\n\r\n", "\r\n", "a", "a\r\n", "PING\r\n"} {
			asSpelled(t, "*"+n+"\r\n"+behind)
			asSpelled(t, "*1\r\n$"+n+"\r\n"+behind)
			asSpelled(t, "*2\r\n$1\r\na\r\n$"+n+"\r\n"+behind)
		}
	}
	for _, n := range []string{"", "-2", "-3", "-0", "+1", "01", "00", "-01", "1.0", " 1", "1 ", "1025", "1026", "9999", "4294967297", "18446744073709551617", "9223372036854775808"} {
		wantError(t, "*"+n+"\r\n", ErrCount)
	}
	for _, n := range []string{"", "-1", "-2", "-0", "+1", "01", "00", "1.0", " 1", "1 ", "1048577", "1048578", "4194304", "4194305", "4294967296", "18446744073709551616", "9223372036854775808"} {
		wantError(t, "*1\r\n$"+n+"\r\n", ErrLength)
	}
	for _, n := range []string{"1", "2", "10", "1023", "1024"} {
		wantAll(t, "*"+n+"\r\n", nil, len(n)+3)
	}
	for _, n := range []string{"0", "1", "9", "1048575", "1048576"} {
		wantAll(t, "*1\r\n$"+n+"\r\n", nil, len(n)+7)
	}
}

func TestP17_3_Marks(t *testing.T) {
	for c := range 256 {
		one := string([]byte{byte(c)})
		for _, ahead := range []string{"*1\r\n", "*1024\r\n", "*2\r\n$1\r\na\r\n", "*3\r\n$0\r\n\r\n$2\r\n\r\n\r\n"} {
			if c == '$' {
				wantAll(t, ahead+one, nil, len(ahead)+1)
				continue
			}
			wantError(t, ahead+one, ErrMark)
			wantAll(t, ahead+one+"0\r\n\r\n", ErrMark, 0)
		}
	}
}

// Behind a word stand a CR and a LF, and each of them is looked at as soon as it is there.
func TestP17_3_EndsOfWords(t *testing.T) {
	for _, word := range []string{"", "a", "\r", "\n", "\r\n", "$1", "*1\r\n", "ab\r\n$1\r\nc"} {
		ahead := "*1\r\n$" + strconv.Itoa(len(word)) + "\r\n" + word
		for c := range 256 {
			one := string([]byte{byte(c)})
			if c != '\r' {
				wantError(t, ahead+one, ErrEnd)
			}
			if c != '\n' {
				wantError(t, ahead+"\r"+one, ErrEnd)
			}
		}
		wantAll(t, ahead, nil, len(ahead))
		wantAll(t, ahead+"\r", nil, len(ahead)+1)
		wantAll(t, ahead+"\r\n", nil, 0, []string{word})
		two := strings.Replace(ahead, "*1", "*2", 1) + "\r\n$1\r\nb"
		wantAll(t, two+"\r\n", nil, 0, []string{word, "b"})
		wantError(t, two+"b", ErrEnd)
		wantError(t, two+"\n", ErrEnd)
		wantError(t, two+"\r\r", ErrEnd)
	}
}

// The numbers of a request's words are reckoned together at each line, ahead of the bytes; and anew in each request.
func TestP17_3_WordsTogether(t *testing.T) {
	big := "$1048576\r\n" + strings.Repeat("x", 1<<20) + "\r\n"
	word := strings.Repeat("x", 1<<20)
	three := "*7\r\n" + big + big + big
	wantLast := func(ahead, line string, err error) {
		t.Helper()
		p := New()
		feed(t, p, ahead+line[:len(line)-1])
		wantState(t, p, "ahead of "+line, nil, len(ahead)+len(line)-1)
		feed(t, p, line[len(line)-1:])
		held := len(ahead) + len(line)
		if err != nil {
			held = 0
		}
		wantState(t, p, "behind "+line, err, held)
	}
	wantLast(three, "$1048576\r\n", nil)
	wantLast(three+big, "$0\r\n", nil)
	wantLast(three+big, "$1\r\n", ErrTooBig)
	wantLast(three+big, "$1048576\r\n", ErrTooBig)
	wantLast(three+big+"$0\r\n\r\n", "$1\r\n", ErrTooBig)
	wantLast(three+"$1\r\na\r\n", "$1048575\r\n", nil)
	wantLast(three+"$1\r\na\r\n", "$1048576\r\n", ErrTooBig)
	// Of one line each the errors that are named first.
	wantLast(three+big, "$1048577\r\n", ErrLength)
	wantLast(three+big, "$-1\r\n", ErrLength)
	wantLast(three+big, "$1\n", ErrEnd)
	wantLast(three+big, "$"+strings.Repeat("1", 32), ErrTooBig)

	most := "*5\r\n" + big + big + big + big + "$0\r\n\r\n"
	p := New()
	for range 3 {
		feed(t, p, most)
	}
	feed(t, p, "*1\r\n$1048576\r\n")
	wantState(t, p, "three times the most", nil, 14)
	for range 3 {
		words, ok := p.Next()
		if !ok || len(words) != 5 || words[0] != word || words[3] != word || words[4] != "" {
			t.Fatalf("Next: %d words, %v", len(words), ok)
		}
	}
	if words, ok := p.Next(); ok {
		t.Errorf("Next: %d words", len(words))
	}
	// A word that is one byte too many is refused, however short it is.
	small := slices.Repeat([]string{strings.Repeat("y", 4096)}, 1023)
	wantAll(t, counted(append(slices.Clone(small), strings.Repeat("z", 4096))...), nil, 0, append(slices.Clone(small), strings.Repeat("z", 4096)))
	wantAll(t, counted(append(slices.Clone(small), strings.Repeat("z", 4097))...), ErrTooBig, 0)
}

func TestP17_2_Words(t *testing.T) {
	for _, words := range [][]string{
		{""}, {"", ""}, {"\r\n"}, {"\r", "\n"}, {"$1\r\na\r\n", "*1\r\n"}, {"\x00\xff", "\xc3\xa9", "é"}, {"*", "$", "\"a", "'"},
		{"a b", " ", "\t"}, slices.Repeat([]string{""}, 1024), slices.Repeat([]string{"\r\n"}, 1024), {strings.Repeat("\r\n", 1<<19)}, {"a", strings.Repeat("\n$1\r", 2500), "b"},
	} {
		wantAll(t, counted(words...), nil, 0, words)
		wantAll(t, counted(words...)+counted(words...)+"*", nil, 1, words, words)
	}
	all256 := make([]string, 256)
	for c := range 256 {
		all256[c] = string([]byte{byte(c)})
		wantAll(t, counted(all256[c]), nil, 0, []string{all256[c]})
	}
	wantAll(t, counted(all256...), nil, 0, all256)
}

// Requests that are no commands are told by nobody, wherever they stand.
func TestP17_2_NoCommand(t *testing.T) {
	none := []string{"*0\r\n", "*-1\r\n", "\n", "\r\n", " \n", "\t \r\n", strings.Repeat(" ", 4096) + "\n", strings.Repeat("\t", 4095) + "\r\n"}
	for _, a := range none {
		wantAll(t, a, nil, 0)
		for _, b := range none {
			wantAll(t, a+b, nil, 0)
			wantAll(t, a+"GET k\n"+b+counted("a")+a+b+"$", nil, 1, []string{"GET", "k"}, []string{"a"})
			wantAll(t, a+b+"*x\r\n", ErrCount, 0)
			asSpelled(t, a+b+a+"a\n"+b)
		}
	}
}

func TestP17_2_InlineLines(t *testing.T) {
	for c := range 256 {
		one := string([]byte{byte(c)})
		for _, line := range []string{one, one + "a", one + "1\r", one + "\"", one + " b", "a" + one, "a" + one + "\r", "a " + one + one, "\"" + one + "\"", "'" + one + "'"} {
			asSpelled(t, line+"\n")
			asSpelled(t, line+"\r\n")
			asSpelled(t, "PING\n"+line+"\r\nPING\n")
		}
	}
	wantAll(t, "a\r\r\n", nil, 0, []string{"a\r"})
	wantAll(t, "\r\r\n", nil, 0, []string{"\r"})
	wantAll(t, "a\rb\n", nil, 0, []string{"a\rb"})
	wantAll(t, "a \r\n", nil, 0, []string{"a"})
	wantAll(t, "'a'\r\n\"b\"\n", nil, 0, []string{"a"}, []string{"b"})
	wantAll(t, "$1\r\na\r\n", nil, 0, []string{"$1"}, []string{"a"})
	wantAll(t, " *1\r\n$1\n", nil, 0, []string{"*1"}, []string{"$1"})
	wantAll(t, "+OK\n-1\n:5\n", nil, 0, []string{"+OK"}, []string{"-1"}, []string{":5"})
	wantError(t, "'a'\r\r\n", ErrQuote)
	wantError(t, "\"a\n", ErrQuote)
	wantError(t, "\"a\\\n", ErrQuote)
	wantError(t, "\"a\\\r\n", ErrQuote)
	wantError(t, "'\n", ErrQuote)
	wantError(t, "\"a\"b\r\n", ErrQuote)
}

func TestP17_3_LongInlineLines(t *testing.T) {
	for _, c := range []string{"a", " ", "\t", "'", "\"", "\r", "\x00", "\xff"} {
		long := strings.Repeat(c, 4096)
		wantAll(t, long, nil, 4096)
		asSpelled(t, long+"\n")
		asSpelled(t, long[1:]+"\r\n")
		asSpelled(t, long[1:]+"\n")
		wantError(t, long+c, ErrTooBig)
		wantError(t, long+"\r", ErrTooBig)
		wantAll(t, long+"\r\n", ErrTooBig, 0)
		wantAll(t, long+c+"\n", ErrTooBig, 0)
	}
	long := strings.Repeat("a", 4096)
	wantAll(t, long+"\n", nil, 0, []string{long})
	wantAll(t, long[1:]+"\r\n", nil, 0, []string{long[1:]})
	wantAll(t, strings.Repeat(long+"\n", 20), nil, 0, slices.Repeat([][]string{{long}}, 20)...)
	wantError(t, "\""+long, ErrTooBig)
	wantError(t, "\""+long[1:]+"\n", ErrQuote)
}

func TestP17_3_WordsOfInlineLines(t *testing.T) {
	many := slices.Repeat([]string{"a"}, 1024)
	for _, end := range []string{"\n", "\r\n"} {
		wantAll(t, strings.Repeat("a ", 1024)+end, nil, 0, many)
		wantAll(t, strings.Repeat("a ", 1023)+"a"+end, nil, 0, many)
		wantError(t, strings.Repeat("a ", 1024)+"a"+end, ErrCount)
		wantError(t, strings.Repeat("a ", 1025)+end, ErrCount)
		wantError(t, strings.Repeat("a ", 1024)+"'"+end, ErrCount)
		wantError(t, strings.Repeat("a ", 1023)+"'"+end, ErrQuote)
		wantError(t, "\"\"\" "+strings.Repeat("a ", 1024)+end, ErrQuote)
	}
}

// Where several things are wrong the first one is told, and it stays.
func TestP17_3_WhichErrorFirst(t *testing.T) {
	wrong := []struct {
		b   string
		err error
	}{
		{"*x\r\n", ErrCount}, {"*1\n", ErrEnd}, {"*1\r\nx", ErrMark}, {"*1\r\n$x\r\n", ErrLength}, {"*1\r\n$1\r\nab", ErrEnd},
		{"'\n", ErrQuote}, {strings.Repeat("a", 4097), ErrTooBig}, {"*" + strings.Repeat("x", 32), ErrTooBig},
	}
	for _, first := range wrong {
		for _, second := range wrong {
			wantAll(t, first.b+second.b, first.err, 0)
			wantAll(t, first.b+"\n"+second.b, first.err, 0)
			wantAll(t, "a\n"+first.b+second.b, first.err, 0, []string{"a"})
			p := New()
			feed(t, p, first.b)
			feed(t, p, second.b)
			wantState(t, p, first.b+second.b, first.err, 0)
		}
	}
	wantError(t, "*x\n", ErrEnd)
	wantError(t, "*9999\n", ErrEnd)
	wantError(t, "*1\r\n$x\n", ErrEnd)
	wantError(t, "*1\r\n\n", ErrMark)
	wantError(t, "*1\r\n*", ErrMark)
	wantError(t, "*"+strings.Repeat("x", 31)+"\n", ErrEnd)
	wantError(t, "*2\r\n$1\r\nab", ErrEnd)
}

// Commands that stand ahead of an error are told, whether or not Err was asked, and fed together or not.
func TestP17_2_AheadOfAnError(t *testing.T) {
	ahead := "PING\r\n*0\r\n" + counted("GET", "k") + "\nSET 'a b' c\n"
	want := [][]string{{"PING"}, {"GET", "k"}, {"SET", "a b", "c"}}
	for _, wrong := range []string{"*x\r\n", "*2\r\n$3\r\nGET\r\nx", "'\n", strings.Repeat("a", 4097), counted("a", "b")[:16] + "x"} {
		for taken := range 4 {
			p := New()
			feed(t, p, ahead)
			for i := range taken {
				if words, ok := p.Next(); !ok || !slices.Equal(words, want[i]) {
					t.Fatalf("Next: %q %v", words, ok)
				}
			}
			feed(t, p, wrong)
			err := p.Err()
			if err == nil || p.Held() != 0 {
				t.Fatalf("%s: %v %d", cut(wrong), err, p.Held())
			}
			feed(t, p, counted("DEL", "k")+"PING\n")
			wantCommands(t, wrong, all(t, p), want[taken:])
			feed(t, p, "\r\n"+counted("DEL", "k")+"PING\n")
			wantCommands(t, wrong, all(t, p), nil)
			wantState(t, p, wrong, err, 0)
		}
	}
}

func TestP17_5_NilParser(t *testing.T) {
	var p *Parser
	for range 2 {
		for _, b := range [][]byte{nil, []byte("PING\n"), []byte("*x\r\n"), make([]byte, 1<<24+1)} {
			if code := p.Feed(b); code != api.ErrNil {
				t.Errorf("Feed: %d", code)
			}
		}
		if words, ok := p.Next(); ok || len(words) != 0 {
			t.Errorf("Next: %q %v", words, ok)
		}
		if p.Err() != nil || p.Held() != 0 {
			t.Errorf("Err %v, Held %d", p.Err(), p.Held())
		}
	}
}

func TestP17_5_ParsersApart(t *testing.T) {
	a, b, c := New(), New(), New()
	feed(t, a, "*2\r\n$3\r\nG")
	feed(t, b, "*x\r\n")
	feed(t, c, "PI")
	wantState(t, a, "a", nil, 9)
	wantState(t, b, "b", ErrCount, 0)
	wantState(t, c, "c", nil, 2)
	feed(t, a, "ET\r\n$1\r\nk\r\n")
	feed(t, b, "PING\r\n")
	feed(t, c, "NG\n'\n")
	wantCommands(t, "a", all(t, a), [][]string{{"GET", "k"}})
	wantCommands(t, "b", all(t, b), nil)
	wantCommands(t, "c", all(t, c), [][]string{{"PING"}})
	wantState(t, a, "a", nil, 0)
	wantState(t, b, "b", ErrCount, 0)
	wantState(t, c, "c", ErrQuote, 0)
	wantState(t, New(), "a new one", nil, 0)
}

// What is told is the caller's: to write there, and behind its end, changes nothing that is told later.
func TestP17_2_WordsAreTheCallers(t *testing.T) {
	p := New()
	one := counted("GET", "k", "") + "SET 'a' \"b\" c\n"
	feed(t, p, one+one+one[:20])
	var kept [][]string
	for range 4 {
		words, _ := p.Next()
		kept = append(kept, slices.Clone(words))
		for i := range words {
			words[i] = "spoilt"
		}
		_ = append(words[:0], "x", "x", "x", "x", "x", "x", "x", "x")
	}
	feed(t, p, one[20:])
	kept = append(kept, all(t, p)...)
	want := [][]string{{"GET", "k", ""}, {"SET", "a", "b", "c"}}
	wantCommands(t, one, kept, slices.Concat(want, want, want))
}

// heap tells how much is kept while something is still in use.
func heap() int {
	runtime.GC()
	var m runtime.MemStats
	runtime.ReadMemStats(&m)
	return int(m.HeapAlloc)
}

// What was told is let go, and short commands that wait take no more room than their bytes.
func TestP17_2_NoMoreKept(t *testing.T) {
	before := heap()
	p := New()
	line := []byte(strings.Repeat("a\n", 1<<19))
	for range 4 {
		p.Feed(line)
	}
	if kept := heap() - before; kept > 4*len(line)*3 {
		t.Errorf("%d bytes are kept of %d", kept, 4*len(line))
	}
	for range 4<<19 - 1 {
		p.Next()
	}
	if kept := heap() - before; kept > 3*len(line) {
		t.Errorf("%d bytes are kept behind all", kept)
	}
	for range 10 {
		p.Feed(line)
		for range 1 << 19 {
			p.Next()
		}
	}
	if kept := heap() - before; kept > 3*len(line) {
		t.Errorf("%d bytes are kept behind 10 times all", kept)
	}
	if words, ok := p.Next(); !ok || words[0] != "a" {
		t.Error("the last command is gone")
	}
	if words, ok := p.Next(); ok {
		t.Errorf("%q", words)
	}
}

// A word that is kept does not keep the line, or the request, in which it stood.
func TestP17_4_ShortWordsKeepNoLine(t *testing.T) {
	before := heap()
	var kept []string
	for range 5000 {
		line := strings.Repeat(" ", 4000) + "short1234567890"
		for _, end := range []string{"", " ''", " 'b'"} {
			words, _ := Inline(line + end)
			kept = append(kept, words...)
		}
		words, _ := Inline(strings.Repeat(" ", 4000) + "'short1234567890'")
		kept = append(kept, words...)
	}
	if more := heap() - before; more > 5<<20 {
		t.Errorf("%d bytes are kept by %d words", more, len(kept))
	}
	runtime.KeepAlive(kept)
}

// within fails if it takes too long: bounds far above what it takes, and far below what it would if the bytes that came
// were gone through again and again.
func within(t *testing.T, most time.Duration, do func()) {
	t.Helper()
	began := time.Now()
	do()
	if took := time.Since(began); took > most {
		t.Errorf("it took %v", took)
	}
}
