package reply

import (
	"math/rand/v2"
	"runtime"
	"slices"
	"strconv"
	"strings"
	"testing"

	"pantry/api"
)

func TestP16_2_ChapterExamples(t *testing.T) {
	wantDecode(t, "+OK\r\nrest", Simple("OK"), 5, api.OK)
	for _, b := range []string{"+OK", "+OK\r", "$3\r\nab", "*1\r\n", ""} {
		wantBroken(t, b, api.ErrShort)
	}
	for _, b := range []string{"x", "+a\n", ":01\r\n", "$-2\r\n", "$+1\r\na\r\n", "$1\r\naxy", "*-0\r\n"} {
		wantBroken(t, b, api.ErrReply)
	}
	// The example says ErrReply of this one too. By P16.2, which is held to, it is ErrShort: two bytes follow, and a Text
	// of one byte and its end are three.
	wantBroken(t, "$1\r\nab", api.ErrShort)
	wantBroken(t, "$16777217\r\n", api.ErrLong)
	wantBroken(t, "*16777217\r\n", api.ErrLong)
	wantRead(t, strings.Repeat("*1\r\n", 7)+"*0\r\n", nested(8))
	wantBroken(t, strings.Repeat("*1\r\n", 8)+"*0\r\n", api.ErrDeep)
}

func TestP16_2_EachKind(t *testing.T) {
	for _, r := range good() {
		b := spelledBytes(r)
		wantRead(t, b, r)
		for _, behind := range []string{"\r\n", "+", "x", "\x00", "-1", b, "*-2\r\n", strings.Repeat("\xff", 999)} {
			wantDecode(t, b+behind, r, len(b), api.OK)
		}
	}
}

func TestP16_2_NoBytes(t *testing.T) {
	wantBroken(t, "", api.ErrShort)
	if r, n, code := Decode(nil); code != api.ErrShort || n != 0 || !same(r, api.Reply{}) {
		t.Errorf("Decode of nil: %s %d %d", short(r), n, code)
	}
}

// A first byte that none of the five is goes wrong ahead of the line behind it.
func TestP16_2_FirstByte(t *testing.T) {
	for c := range 256 {
		first := string([]byte{byte(c)})
		for _, behind := range []string{"", "\r", "\n", "\r\n", "1", "1\r", "1\r\n", "-1\r\n", "0\r\n", "0\r\n\r\n", "1\r\na\r\n", "1\r\n+\r\n", "\n\n", "+\r\n", strings.Repeat("a", 100)} {
			for _, ahead := range []string{"", "*1\r\n", "*2\r\n$-1\r\n", "*3\r\n*1\r\n:0\r\n"} {
				readAsSpelled(t, ahead+first+behind)
				if !strings.Contains("+-:$*", first) {
					wantBroken(t, ahead+first+behind, api.ErrReply)
				}
			}
		}
	}
}

// A line is broken off at each of its places, ends with a LF alone, or with a CR behind which another byte stands.
func TestP16_2_Lines(t *testing.T) {
	for _, mark := range []string{"+", "-", ":", "$", "*"} {
		for _, line := range []string{"", "1", "12345", "-1", "-", "abc", "\x00\xff", "\xc3\xa9\xe2\x80", strings.Repeat("12", 40)} {
			for n := range len(line) + 1 {
				wantBroken(t, mark+line[:n], api.ErrShort)
				wantBroken(t, mark+line[:n]+"\r", api.ErrShort)
				wantBroken(t, mark+line[:n]+"\n", api.ErrReply)
				wantBroken(t, mark+line[:n]+"\n\r\n", api.ErrReply)
				wantBroken(t, mark+line[:n]+"\n"+line[n:]+"\r\n", api.ErrReply)
				readAsSpelled(t, mark+line[:n]+"\r\n")
				for c := range 256 {
					if c != '\n' {
						wantBroken(t, mark+line[:n]+"\r"+string([]byte{byte(c)}), api.ErrReply)
						wantBroken(t, mark+line[:n]+"\r"+string([]byte{byte(c)})+"\n\r\n", api.ErrReply)
					}
				}
			}
		}
	}
}

// Every byte but these two may stand in a line, at any place.
func TestP16_2_BytesOfLines(t *testing.T) {
	for c := range 256 {
		one := string([]byte{byte(c)})
		for _, text := range []string{one, one + "a", "a" + one, strings.Repeat("a", 50) + one + "b", "\xc3" + one, "\xe2\x80" + one + "\x80"} {
			readAsSpelled(t, "+"+text+"\r\n")
			readAsSpelled(t, "-"+text+"\r\n")
			readAsSpelled(t, ":"+text+"\r\n")
			readAsSpelled(t, "$"+text+"\r\n")
			readAsSpelled(t, "*"+text+"\r\n")
			if c != '\r' && c != '\n' {
				wantRead(t, "+"+text+"\r\n", Simple(text))
				wantRead(t, "-"+text+"\r\n", api.Reply{Kind: 2, Text: text})
			}
		}
	}
}

// numbers are those that digit.Int takes, and many that it does not.
func numbers() []string {
	l := []string{"", "0", "-0", "+0", "00", "-", "--1", "+", "1", "+1", "-1", "-2", "01", "-01", "1.0", "1e3", "0x1", " 1", "1 ", "1_0", "1a", "a", "\x00", "1\x00", "\xd9\xa1", "٣", "-1 ", "-10", "-11", "-1a", "NaN", "inf",
		"16777214", "16777215", "16777216", "16777217", "16777218", "-16777216", "-16777217", "016777216", "+16777216", "4294967295", "4294967296", "4294967297", "-4294967295", "2147483647", "2147483648",
		"9223372036854775806", "9223372036854775807", "9223372036854775808", "-9223372036854775807", "-9223372036854775808", "-9223372036854775809", "18446744073709551614", "18446744073709551615", "18446744073709551616", "18446744073709551617",
		"99999999999999999999", "-99999999999999999999", "100000000000000000000", "00000000000000000000001", "12345678901234567890123456789012", strings.Repeat("9", 5000), strings.Repeat("0", 5000)}
	for i := range 130 {
		l = append(l, strconv.Itoa(i), strconv.Itoa(-i), "+"+strconv.Itoa(i), "0"+strconv.Itoa(i))
	}
	for n, power := 0, "1"; n < 22; n, power = n+1, power+"0" {
		l = append(l, power, "-"+power, power[:n]+"9", strings.Repeat("9", n+1), "-"+strings.Repeat("9", n+1))
	}
	return l
}

func TestP16_2_Numbers(t *testing.T) {
	for _, word := range numbers() {
		for _, mark := range []string{":", "$", "*"} {
			for _, behind := range []string{"", "\r\n", "a", "a\r\n", ":1\r\n", strings.Repeat("+\r\n", 130)} {
				readAsSpelled(t, mark+word+"\r\n"+behind)
				readAsSpelled(t, "*2\r\n+a\r\n"+mark+word+"\r\n"+behind)
			}
		}
	}
	for _, mark := range []string{"$", "*"} {
		for _, word := range []string{"-2", "-3", "-10", "-16777217", "-9223372036854775808", "-0", "+1", "01", "", "9223372036854775808"} {
			wantBroken(t, mark+word+"\r\n", api.ErrReply)
		}
		for _, word := range []string{"16777217", "16777218", "33554432", "4294967296", "9223372036854775807"} {
			wantBroken(t, mark+word+"\r\n", api.ErrLong)
			wantBroken(t, mark+word+"\r\nx", api.ErrLong)
		}
		wantBroken(t, mark+"16777216\r\n", api.ErrShort)
		wantRead(t, mark+"-1\r\n", api.Reply{Kind: map[string]int{"$": 5, "*": 7}[mark]})
	}
	wantRead(t, ":-1\r\n", Int(-1))
	wantRead(t, ":16777217\r\n", Int(16777217))
}

// A Text may be shorter, or longer, than its number says, and what stands behind it may be anything.
func TestP16_2_Texts(t *testing.T) {
	for n := range 40 {
		for has := range 45 {
			for _, text := range []string{strings.Repeat("a", has), strings.Repeat("\r\n", 30)[:has], strings.Repeat("\n\r", 30)[:has], strings.Repeat("$1\r\n", 30)[:has], strings.Repeat("\xff\x00", 30)[:has]} {
				b := "$" + strconv.Itoa(n) + "\r\n" + text
				readAsSpelled(t, b)
				readAsSpelled(t, b+"\r\n")
				readAsSpelled(t, b+"\r\n+OK\r\n")
				readAsSpelled(t, "*2\r\n"+b+"\r\n:1\r\n")
			}
		}
	}
}

// Of the two bytes behind a Text only a CR and then a LF will do; and one alone is too short, whatever it is.
func TestP16_2_EndsOfTexts(t *testing.T) {
	for c := range 256 {
		one := string([]byte{byte(c)})
		for _, text := range []string{"", "a", "ab", "a\r\n"} {
			ahead := "$" + strconv.Itoa(len(text)) + "\r\n" + text
			wantBroken(t, ahead+one, api.ErrShort)
			for _, end := range []string{one + "\n", "\r" + one, one + one, "\n" + one, one + "\r"} {
				readAsSpelled(t, ahead+end)
				if end != "\r\n" {
					wantBroken(t, ahead+end, api.ErrReply)
					wantBroken(t, ahead+end+"\r\n", api.ErrReply)
				}
			}
		}
	}
}

// An array has just as many replies as its line says: with fewer it is too short, and what is more stands behind it.
func TestP16_2_HowManyReplies(t *testing.T) {
	for n := range 12 {
		for has := range 14 {
			for _, in := range []api.Reply{Int(7), Null(), Array(), Bulk("a\r\n"), Array(Simple("x"), Array(Error("e")))} {
				b := "*" + strconv.Itoa(n) + "\r\n" + strings.Repeat(spelledBytes(in), has)
				readAsSpelled(t, b)
				if has < n {
					wantBroken(t, b, api.ErrShort)
				} else {
					r := Array(slices.Repeat([]api.Reply{in}, n)...)
					wantDecode(t, b, r, len(spelledBytes(r)), api.OK)
				}
			}
		}
	}
}

// Just the ninth array in one another is refused, and that behind what its own line says.
func TestP16_2_Depth(t *testing.T) {
	ins := []string{"*0\r\n", "*-1\r\n", "*-2\r\n", "*-0\r\n", "*16777216\r\n", "*16777217\r\n", "*1\r\n", "*1\r\nx", "*1", "*1\r", "*1\n", "*", "*x\r\n", "x", "", ":1\r\n", "$1\r\na\r\n", "$-1\r\n", "*1\r\n:1\r\n", "*2\r\n*0\r\n*0\r\n"}
	for deep := range 14 {
		for _, ahead := range []string{"*1\r\n", "*2\r\n+a\r\n", "*2\r\n*0\r\n", "*3\r\n*1\r\n:1\r\n$1\r\n*\r\n"} {
			for _, in := range ins {
				readAsSpelled(t, strings.Repeat(ahead, deep)+in)
			}
		}
	}
	eight := strings.Repeat("*1\r\n", 8)
	for in, code := range map[string]api.Errno{"*0\r\n": api.ErrDeep, "*1\r\n": api.ErrDeep, "*16777216\r\n": api.ErrDeep, "*16777217\r\n": api.ErrLong, "*-2\r\n": api.ErrReply, "*a\r\n": api.ErrReply, "*0\n": api.ErrReply, "*0": api.ErrShort, "*0\r": api.ErrShort, "": api.ErrShort} {
		wantBroken(t, eight+in, code)
	}
	wantRead(t, eight+"*-1\r\n", nested(8, api.Reply{Kind: 7}))
	wantRead(t, eight+"$-1\r\n", nested(8, Null()))
	wantRead(t, eight+":5\r\n", nested(8, Int(5)))
	wantBroken(t, "*2\r\n"+strings.Repeat("*1\r\n", 7)+"*-1\r\n"+strings.Repeat("*1\r\n", 7)+"*0\r\n", api.ErrDeep)
	wantRead(t, "*3\r\n"+strings.Repeat(strings.Repeat("*1\r\n", 6)+"*0\r\n", 3), Array(nested(7), nested(7), nested(7)))
}

// What goes wrong first, from the left, is told, and nothing of what was read ahead of it.
func TestP16_2_WhatGoesWrongFirst(t *testing.T) {
	rows := []struct {
		b    string
		code api.Errno
	}{
		{"x", api.ErrReply}, {"$16777217\r\n", api.ErrLong}, {strings.Repeat("*1\r\n", 9), api.ErrDeep}, {"+a\n", api.ErrReply}, {":1\rx", api.ErrReply}, {"*-2\r\n", api.ErrReply},
		{"$1\r\nabc", api.ErrReply}, {"*16777217\r\n", api.ErrLong}, {":9223372036854775808\r\n", api.ErrReply}, {"*1\r\nx", api.ErrReply},
	}
	for _, first := range rows {
		for _, then := range rows {
			for _, ahead := range []string{"*3\r\n", "*3\r\n:1\r\n", "*5\r\n$1\r\na\r\n*2\r\n*0\r\n*1\r\n*-1\r\n", "*2\r\n+OK\r\n"} {
				wantBroken(t, ahead+first.b+then.b, first.code)
			}
		}
	}
}

// It may have just MaxBytes; whether it has more is looked at behind all else.
func TestP16_2_JustAtMaxBytes(t *testing.T) {
	for _, r := range exactly(16777216) {
		b := spelledBytes(r)
		wantRead(t, b, r)
		wantDecode(t, b+"x", r, 16777216, api.OK)
		if len(r.List) < 10 {
			wantDecode(t, b+b, r, 16777216, api.OK)
		}
	}
	for _, r := range exactly(16777217) {
		b := spelledBytes(r)
		wantBroken(t, b, api.ErrLong)
		wantBroken(t, b+"x", api.ErrLong)
		wantBroken(t, b[:16777216], api.ErrShort)
		wantBroken(t, b[:16777215], api.ErrShort)
	}
}

func TestP16_2_TooLongAtTheEnd(t *testing.T) {
	most := strings.Repeat("a", 16777216)
	wantBroken(t, "$16777216\r\n"+most+"\r\n", api.ErrLong)
	wantBroken(t, "$16777216\r\n"+most+"\r", api.ErrShort)
	wantBroken(t, "$16777216\r\n"+most, api.ErrShort)
	wantBroken(t, "$16777216\r\n"+most+"\n\r", api.ErrReply)
	wantBroken(t, "+"+most+most+"\r\n", api.ErrLong)
	wantBroken(t, "+"+most+most+"\r", api.ErrShort)
	wantBroken(t, "+"+most+most, api.ErrShort)
	wantBroken(t, "-"+most+most+"\n", api.ErrReply)
	wantBroken(t, ":"+strings.Repeat("1", 16777216)+"\r\n", api.ErrReply)
	whole := "$16777216\r\n" + most + "\r\n"
	wantBroken(t, "*2\r\n"+whole+":1\r\n", api.ErrLong)
	wantBroken(t, "*2\r\n"+whole+":1\r", api.ErrShort)
	wantBroken(t, "*2\r\n"+whole, api.ErrShort)
	wantBroken(t, "*2\r\n"+whole+"x", api.ErrReply)
	wantBroken(t, "*2\r\n"+whole+strings.Repeat("*1\r\n", 8), api.ErrDeep)
	wantBroken(t, "*3\r\n"+whole+whole+"$-2\r\n", api.ErrReply)
}

// Each array here says that it has far more replies than come, and each line that far more bytes do: nothing is made
// ahead of what is there.
func TestP16_2_NoRoomAheadOfTime(t *testing.T) {
	var ahead, behind runtime.MemStats
	runtime.ReadMemStats(&ahead)
	for range 20 {
		wantBroken(t, strings.Repeat("*16777216\r\n", 8)+":1\r\n", api.ErrShort)
		wantBroken(t, "*16777216\r\n$16777216\r\na", api.ErrShort)
	}
	runtime.ReadMemStats(&behind)
	if made := behind.TotalAlloc - ahead.TotalAlloc; made > 1<<20 {
		t.Errorf("%d bytes were made", made)
	}
}

func TestP16_2_ManyReplies(t *testing.T) {
	inTime(t, "many replies", func() {
		for _, in := range []api.Reply{Bulk("hello"), Array(Int(1), Null()), Simple("")} {
			r := Array(slices.Repeat([]api.Reply{in}, 300000)...)
			wantRead(t, spelledBytes(r), r)
		}
	})
}

// Every short row of these signs, alone and behind what a reply may begin with.
func TestP16_2_EveryShortRow(t *testing.T) {
	signs := []string{"+", "-", ":", "$", "*", "\r\n", "\r", "\n", "0", "1", "2", "a"}
	rows, longest := []string{""}, []string{""}
	for range 5 {
		var longer []string
		for _, row := range longest {
			for _, sign := range signs {
				longer = append(longer, row+sign)
			}
		}
		rows, longest = append(rows, longer...), longer
	}
	for _, row := range rows {
		for _, ahead := range []string{"", "*2\r\n", "*1\r\n*2\r\n:1\r\n", "$2\r\n"} {
			r, n, code := Decode([]byte(ahead + row))
			want, size, wantCode := spelledDecode(ahead + row)
			if code != wantCode || n != size || !same(r, want) {
				t.Fatalf("Decode %q: %s %d %d, not %s %d %d", ahead+row, short(r), n, code, short(want), size, wantCode)
			}
		}
	}
}

// drawnBytes are those of a reply, of which some may be others now, gone, or told twice; one at least is left.
func drawnBytes(d *rand.Rand, deep int) string {
	b := []byte(spelledBytes(drawnReply(d, deep, 0)))
	for range d.IntN(4) {
		at := d.IntN(len(b))
		switch d.IntN(5) {
		case 0:
			b[at] = "\r\n\r\n+-:$*0123x\x00\xff"[d.IntN(16)]
		case 1:
			b = append(b[:at], b[min(at+1+d.IntN(3), len(b)-1):]...)
		case 2:
			b = slices.Insert(b, at, b[at:min(at+1+d.IntN(6), len(b))]...)
		case 3:
			b = append(b, b[:at]...)
		case 4:
			b = b[:max(at, 1)]
		}
	}
	return string(b)
}

func TestP16_2_Drawn(t *testing.T) {
	d := rand.New(rand.NewPCG(16, 2))
	codes := map[api.Errno]int{}
	for i := range 60000 {
		b := drawnBytes(d, i%12)
		readAsSpelled(t, b)
		_, _, code := spelledDecode(b)
		codes[code]++
	}
	if codes[api.OK] < 5000 || codes[api.ErrReply] < 5000 || codes[api.ErrShort] < 2000 || codes[api.ErrDeep] < 100 {
		t.Errorf("the drawn bytes are not of every sort: %v", codes)
	}
}

// The bytes are the caller's again once Decode has answered, and each answer has lists of its own.
func TestP16_2_NothingKeptOrShared(t *testing.T) {
	want := Array(Simple("ab"), Array(Bulk("cd"), Error("ef"), Int(1)), Array(Null(), Bulk("")), Bulk("xyz"))
	b := []byte(spelledBytes(want))
	first, _, _ := Decode(b)
	second, _, _ := Decode(b)
	for i := range b {
		b[i] = '!'
	}
	if !same(first, want) || !same(second, want) {
		t.Fatalf("the bytes are kept: %s", short(first))
	}
	for i := range first.List {
		in := first.List[i].List
		for k := range in[:cap(in)] {
			in[:cap(in)][k] = Int(9)
		}
	}
	for i, in := range first.List {
		if in.Kind != want.List[i].Kind || in.Text != want.List[i].Text {
			t.Errorf("two lists share room: %s", short(first))
		}
	}
	clear(first.List[:cap(first.List)])
	if !same(second, want) {
		t.Errorf("two answers share lists: %s", short(second))
	}
}
