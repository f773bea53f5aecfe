package patch

import (
	"bytes"
	"math"
	"math/rand/v2"
	"runtime"
	"strings"
	"testing"
	"unsafe"
	"weak"

	"pantry/api"
	"pantry/digit"
)

const (
	maxText   = 1048576
	maxOffset = 1073741824
)

// full has MaxText bytes, over one more; none of either is 0.
var (
	full = strings.Repeat("abcdefgh", maxText/8)
	over = full + "i"
)

// texts are short ones of every sort: empty, of bytes 0 and 255, with bytes that are no letters.
var texts = []string{"", "a", "\x00", "\xff", "ab", "hello", "\x00\x00", "\xff\xff", "\x80\x01", "a\x00b", "\r\n", "\xc3\xa9", "\xff\xfe\x7f\x80\x00\x01\x55\xaa\x0f"}

// extremes are numbers at which a bound lies, or at which a sum that wraps round would be small again.
var extremes = []int64{
	math.MinInt64, math.MinInt64 + 1, math.MinInt64 + 2, math.MinInt64 + 8, -1 << 62, -1<<32 - 1, -1 << 32, -1<<32 + 1, math.MinInt32, -maxOffset, -8 * maxText, -maxText, -1 << 16,
	1 << 16, maxText, maxText + 1, 8*maxText - 1, 8 * maxText, 8*maxText + 1, maxOffset - 1, maxOffset, maxOffset + 1,
	math.MaxInt32, math.MaxInt32 + 1, 1<<32 - 1, 1 << 32, 1<<32 + 1, 1 << 35, 1 << 62, 1 << 60, math.MaxInt64 - 8, math.MaxInt64 - 2, math.MaxInt64 - 1, math.MaxInt64,
}

// places are all those near the ends of a text of so many bytes or bits, from both sides, and the extremes.
func places(n int) []int64 {
	all := append([]int64{}, extremes...)
	for k := int64(-n - 3); k <= int64(n)+9; k++ {
		all = append(all, k)
	}
	return all
}

func drawText(r *rand.Rand, most int) string {
	row := make([]byte, r.IntN(most+1))
	for i := range row {
		row[i] = byte(r.Uint32())
	}
	return string(row)
}

func TestP8_1_SliceExamples(t *testing.T) {
	for _, c := range []struct {
		s           string
		start, stop int64
		want        string
	}{
		{"hello", 1, 3, "ell"},
		{"hello", -3, -1, "llo"},
		{"hello", 3, 1, ""},
		{"hello", 0, 100, "hello"},
		{"hello", 0, -1, "hello"},
		{"hello", 0, 0, "h"},
		{"hello", 4, 4, "o"},
		{"hello", -1, -1, "o"},
		{"hello", -5, -5, "h"},
		{"hello", -6, -6, ""},
		{"hello", -100, 1, "he"},
		{"hello", 5, 5, ""},
		{"hello", 0, -6, ""},
		{"hello", math.MinInt64, math.MaxInt64, "hello"},
		{"hello", math.MaxInt64, math.MinInt64, ""},
		{"hello", math.MinInt64, math.MinInt64, ""},
		{"hello", math.MaxInt64, math.MaxInt64, ""},
		{"hello", 2, math.MaxInt64, "llo"},
		{"hello", math.MinInt64, 2, "hel"},
		{"", 0, -1, ""},
		{"", 0, 0, ""},
		{"", -1, 0, ""},
		{"", math.MinInt64, math.MaxInt64, ""},
	} {
		if told := Slice(c.s, c.start, c.stop); told != c.want {
			t.Errorf("Slice(%q, %d, %d) = %q; want %q", c.s, c.start, c.stop, told, c.want)
		}
	}
}

func TestP8_1_SliceOfEveryStretch(t *testing.T) {
	for _, s := range texts {
		for _, start := range places(len(s)) {
			for _, stop := range places(len(s)) {
				holdSlice(t, s, start, stop)
				first, behind := digit.Span(start, stop, len(s))
				if told := Slice(s, start, stop); told != s[first:behind] {
					t.Errorf("Slice(%q, %d, %d) = %q; Span tells %d and %d", s, start, stop, told, first, behind)
				}
			}
		}
	}
}

func TestP8_1_SliceOfLongTexts(t *testing.T) {
	for _, s := range []string{full, over, over + over} {
		n := int64(len(s))
		for _, c := range [][2]int64{{0, -1}, {0, n - 1}, {0, n}, {1, -1}, {0, -2}, {n - 1, n - 1}, {n, n}, {-n, -n}, {-n - 1, 0}, {-1, -1}, {n / 2, n/2 + 3}, {math.MinInt64, math.MaxInt64}} {
			holdSlice(t, s, c[0], c[1])
		}
	}
}

func TestP8_1_SliceIsNewMemory(t *testing.T) {
	s := strings.Clone("hello")
	for start := range int64(5) {
		for stop := start; stop < 5; stop++ {
			if told := Slice(s, start, stop); unsafe.StringData(told) == unsafe.StringData(s[start:]) {
				t.Errorf("Slice(%q, %d, %d) shares the text's memory", s, start, stop)
			}
		}
	}
}

func TestP8_1_SliceHoldsNoLongText(t *testing.T) {
	s := strings.Repeat("x", maxText)
	eye := weak.Make(unsafe.StringData(s))
	told := Slice(s, 5, 6)
	s = ""
	for range 10 {
		runtime.GC()
		if eye.Value() == nil {
			break
		}
	}
	if eye.Value() != nil {
		t.Error("a stretch of two bytes holds on to the whole text")
	}
	if told != "xx" {
		t.Errorf("%q", told)
	}
}

func TestP8_2_OverlayExamples(t *testing.T) {
	for _, c := range []struct {
		s    string
		at   int64
		v    string
		want string
		code api.Errno
	}{
		{"hello", 1, "EL", "hELlo", api.OK},
		{"hello", 0, "HELLO", "HELLO", api.OK},
		{"hello", 0, "H", "Hello", api.OK},
		{"hello", 4, "O", "hellO", api.OK},
		{"hello", 4, "O!", "hellO!", api.OK},
		{"hello", 5, "!", "hello!", api.OK},
		{"hello", 6, "!", "hello\x00!", api.OK},
		{"hello", 7, "x", "hello\x00\x00x", api.OK},
		{"hello", 0, "longer than it", "longer than it", api.OK},
		{"hello", 1, "\x00", "h\x00llo", api.OK},
		{"hello", 5, "\x00", "hello\x00", api.OK},
		{"", 0, "x", "x", api.OK},
		{"", 3, "x", "\x00\x00\x00x", api.OK},
		{"", 0, "", "", api.OK},
		{"hello", -1, "", "", api.ErrArg},
		{"hello", -1, "x", "", api.ErrArg},
		{"", -1, "", "", api.ErrArg},
		{"hello", math.MinInt64, "", "", api.ErrArg},
		{"hello", math.MinInt64, "x", "", api.ErrArg},
		{"hello", math.MaxInt64, "", "hello", api.OK},
		{"hello", math.MaxInt64, "x", "", api.ErrLong},
		{"hello", 1048575, "x", "hello" + strings.Repeat("\x00", 1048570) + "x", api.OK},
		{"hello", 1048576, "x", "", api.ErrLong},
	} {
		if told, code := Overlay(c.s, c.at, c.v); told != c.want || code != c.code {
			t.Errorf("Overlay(%q, %d, %q) = %s, %d; want %s, %d", c.s, c.at, c.v, short(told), code, short(c.want), c.code)
		}
	}
}

func TestP8_2_OverlayAtEveryPlace(t *testing.T) {
	for _, s := range texts {
		for _, v := range texts {
			for at := int64(-3); at < int64(len(s))+12; at++ {
				holdOverlay(t, s, at, v)
			}
			for _, at := range extremes {
				holdOverlay(t, s, at, v)
			}
		}
	}
}

func TestP8_2_OverlayWithNothing(t *testing.T) {
	for _, s := range append([]string{full, over, over + over}, texts...) {
		for _, at := range append([]int64{0, 1, 5, maxText - 1}, extremes...) {
			told, code := Overlay(s, at, "")
			if at < 0 && (told != "" || code != api.ErrArg) {
				t.Errorf("Overlay(%s, %d, nothing) = %s, %d; want ErrArg", short(s), at, short(told), code)
			}
			if at >= 0 && (told != s || code != api.OK) {
				t.Errorf("Overlay(%s, %d, nothing) = %s, %d; want the text itself", short(s), at, short(told), code)
			}
		}
	}
}

func TestP8_2_OverlayAtItsBounds(t *testing.T) {
	half := full[:maxText/2]
	for _, s := range []string{"", "hello", half, full, over, over + over} {
		for _, v := range []string{"x", "xyz", half, full, over} {
			most := int64(maxText - len(v))
			for _, at := range []int64{-1, 0, 1, most - 1, most, most + 1, maxText - 1, maxText, maxText + 1, math.MaxInt64 - int64(len(v)), math.MaxInt64 - int64(len(v)) + 1, math.MaxInt64} {
				told, code := Overlay(s, at, v)
				want := api.OK
				switch {
				case at < 0:
					want = api.ErrArg
				case len(s) > maxText || at > most:
					want = api.ErrLong
				}
				if code != want || code != api.OK && told != "" {
					t.Errorf("Overlay(%s, %d, %s) = %s, %d; want %d", short(s), at, short(v), short(told), code, want)
				}
				if code == api.OK && (len(told) != max(len(s), int(at)+len(v)) || told[at:int(at)+len(v)] != v) {
					t.Errorf("Overlay(%s, %d, %s) = %s", short(s), at, short(v), short(told))
				}
			}
		}
	}
	holdOverlay(t, full, maxText-1, "x")
	holdOverlay(t, full, 0, full)
	holdOverlay(t, "hello", maxText-3, "xyz")
}

func TestP8_3_Join(t *testing.T) {
	for _, c := range [][3]string{{"ab", "c", "abc"}, {"", "c", "c"}, {"ab", "", "ab"}, {"", "", ""}, {"\x00", "\xff\x00", "\x00\xff\x00"}} {
		if told, code := Join(c[0], c[1]); told != c[2] || code != api.OK {
			t.Errorf("Join(%q, %q) = %q, %d", c[0], c[1], told, code)
		}
	}
	for _, s := range texts {
		for _, v := range texts {
			holdJoin(t, s, v)
		}
	}
}

func TestP8_3_JoinAtItsBound(t *testing.T) {
	for _, n := range []int{0, 1, 2, 1000, maxText / 2, maxText - 1, maxText} {
		s, v := full[:n], full[n:]
		if told, code := Join(s, v); told != full || code != api.OK {
			t.Errorf("%d bytes and %d: %d bytes, %d", len(s), len(v), len(told), code)
		}
		if told, code := Join(s+"x", v); told != "" || code != api.ErrLong {
			t.Errorf("%d bytes and %d: %d bytes, %d; want ErrLong", len(s)+1, len(v), len(told), code)
		}
		if told, code := Join(s, v+"x"); told != "" || code != api.ErrLong {
			t.Errorf("%d bytes and %d: %d bytes, %d; want ErrLong", len(s), len(v)+1, len(told), code)
		}
	}
	for _, c := range [][2]string{{full, full}, {over, over}, {over, ""}, {"", over}, {over + over, "x"}} {
		holdJoin(t, c[0], c[1])
	}
}

func TestP8_4_BitExamples(t *testing.T) {
	for at, want := range []int{0, 1, 1, 0, 0, 0, 0, 1, 0, 0, 0, 0, 0, 0, 0, 0, 0} {
		if bit, code := Bit("a", int64(at)); bit != want || code != api.OK {
			t.Errorf("the bit %d of a: %d, %d; want %d", at, bit, code, want)
		}
	}
	for _, at := range []int64{-1, -2, -8, maxOffset, maxOffset + 1, math.MinInt64, math.MaxInt64} {
		for _, s := range []string{"", "a", "\xff", full, over} {
			if bit, code := Bit(s, at); bit != 0 || code != api.ErrArg {
				t.Errorf("Bit(%s, %d) = %d, %d; want ErrArg", short(s), at, bit, code)
			}
		}
	}
}

func TestP8_4_BitOfEveryByte(t *testing.T) {
	for b := range 256 {
		s := string([]byte{byte(b)})
		weight := 128
		for at := range int64(8) {
			want := b / weight % 2
			if bit, code := Bit(s, at); bit != want || code != api.OK {
				t.Errorf("the bit %d of the byte %d: %d, %d; want %d", at, b, bit, code, want)
			}
			if bit, code := Bit("\x55"+s+"\xaa", at+8); bit != want || code != api.OK {
				t.Errorf("the bit %d of the byte %d, the second one: %d, %d; want %d", at, b, bit, code, want)
			}
			weight /= 2
		}
	}
}

func TestP8_4_BitAtEveryPlace(t *testing.T) {
	for _, s := range texts {
		for _, at := range places(8 * len(s)) {
			holdBit(t, s, at)
		}
	}
}

func TestP8_4_BitOfLongTexts(t *testing.T) {
	for _, n := range []int{maxText - 1, maxText, maxText + 1, 2 * maxText} {
		s := strings.Repeat("\x00", n-1) + "\x01"
		last := int64(8*n - 1)
		for at, want := range map[int64]int{0: 0, 7: 0, last - 8: 0, last - 1: 0, last: 1, last + 1: 0, last + 8: 0, 16*maxText + 7: 0, maxOffset - 1: 0} {
			if bit, code := Bit(s, at); bit != want || code != api.OK {
				t.Errorf("the bit %d of %d bytes: %d, %d; want %d", at, n, bit, code, want)
			}
		}
	}
}

func TestP8_5_SetBitExamples(t *testing.T) {
	for _, c := range []struct {
		s    string
		at   int64
		bit  int
		want string
		was  int
		code api.Errno
	}{
		{"a", 6, 1, "c", 0, api.OK},
		{"c", 6, 0, "a", 1, api.OK},
		{"a", 0, 1, "\xe1", 0, api.OK},
		{"a", 7, 0, "`", 1, api.OK},
		{"a", 7, 1, "a", 1, api.OK},
		{"a", 6, 0, "a", 0, api.OK},
		{"a", 8, 0, "a\x00", 0, api.OK},
		{"a", 8, 1, "a\x80", 0, api.OK},
		{"a", 31, 1, "a\x00\x00\x01", 0, api.OK},
		{"", 0, 0, "\x00", 0, api.OK},
		{"", 7, 1, "\x01", 0, api.OK},
		{"", 8, 1, "\x00\x80", 0, api.OK},
		{"abc", 15, 1, "acc", 0, api.OK},
		{"a", 0, 2, "", 0, api.ErrArg},
		{"a", 1, 2, "", 0, api.ErrArg},
		{"a", 1, -1, "", 0, api.ErrArg},
		{"a", -1, 0, "", 0, api.ErrArg},
		{"a", -1, 1, "", 0, api.ErrArg},
		{"a", maxOffset, 1, "", 0, api.ErrArg},
		{"a", maxOffset - 1, 1, "", 0, api.ErrLong},
		{"", 8388608, 0, "", 0, api.ErrLong},
		{"", 8388608, 1, "", 0, api.ErrLong},
	} {
		if told, was, code := SetBit(c.s, c.at, c.bit); told != c.want || was != c.was || code != c.code {
			t.Errorf("SetBit(%q, %d, %d) = %q, %d, %d; want %q, %d, %d", c.s, c.at, c.bit, short(told), was, code, c.want, c.was, c.code)
		}
	}
}

func TestP8_5_SetBitAtEveryPlace(t *testing.T) {
	for _, s := range texts {
		for at := int64(-2); at < int64(8*len(s)+20); at++ {
			for bit := -1; bit <= 2; bit++ {
				holdSetBit(t, s, at, bit)
			}
		}
	}
}

func TestP8_5_SetBitErrorsInTheirOrder(t *testing.T) {
	bits := []int{math.MinInt, -257, -256, -255, -2, -1, 0, 1, 2, 3, 255, 256, 257, math.MaxInt - 1, math.MaxInt}
	ats := append([]int64{0, 7, 8, -1, -2, -8}, extremes...)
	for _, s := range []string{"", "a", full, over, over + over} {
		for _, at := range ats {
			for _, bit := range bits {
				want := api.OK
				switch {
				case at < 0 || at >= maxOffset || bit < 0 || bit > 1:
					want = api.ErrArg
				case len(s) > maxText || at >= 8*maxText:
					want = api.ErrLong
				}
				told, was, code := SetBit(s, at, bit)
				if code != want || code != api.OK && (told != "" || was != 0) {
					t.Errorf("SetBit(%s, %d, %d) = %s, %d, %d; want %d", short(s), at, bit, short(told), was, code, want)
				}
			}
		}
	}
	// Also where the bit that was there is 1, nothing of it is told beside an error.
	if told, was, code := SetBit(over, 1, 1); told != "" || was != 0 || code != api.ErrLong {
		t.Errorf("%d bytes, %d, %d", len(told), was, code)
	}
	if told, was, code := SetBit("\xff", 0, 2); told != "" || was != 0 || code != api.ErrArg {
		t.Errorf("%q, %d, %d", told, was, code)
	}
}

func TestP8_5_SetBitOfLongTexts(t *testing.T) {
	last := int64(8*maxText - 1)
	told, was, code := SetBit("", last, 1)
	if told != strings.Repeat("\x00", maxText-1)+"\x01" || was != 0 || code != api.OK {
		t.Errorf("the last bit there may be: %s, %d, %d", short(told), was, code)
	}
	back, was, code := SetBit(told, last, 0)
	if back != strings.Repeat("\x00", maxText) || was != 1 || code != api.OK {
		t.Errorf("the last bit there may be, set back: %s, %d, %d", short(back), was, code)
	}
	told, was, code = SetBit(full, 0, 1)
	if told != "\xe1"+full[1:] || was != 0 || code != api.OK {
		t.Errorf("the first bit of the longest text: %s, %d, %d", short(told), was, code)
	}
	told, was, code = SetBit(full, last-1, 1)
	if told != full[:maxText-1]+"j" || was != 0 || code != api.OK {
		t.Errorf("the last bit but one of the longest text: %s, %d, %d", short(told), was, code)
	}
	told, was, code = SetBit("hello", last-7, 0)
	if told != "hello"+strings.Repeat("\x00", maxText-5) || was != 0 || code != api.OK {
		t.Errorf("the highest bit of the last byte there may be: %s, %d, %d", short(told), was, code)
	}
}

func TestP8_6_OnesExamples(t *testing.T) {
	for _, c := range []struct {
		s           string
		start, stop int64
		want        int
	}{
		{"abc", 0, -1, 10},
		{"abc", 1, 1, 3},
		{"abc", -1, -1, 4},
		{"abc", 0, 1, 6},
		{"abc", 2, 1, 0},
		{"abc", 3, 9, 0},
		{"abc", math.MinInt64, math.MaxInt64, 10},
		{"abc", math.MaxInt64, math.MinInt64, 0},
		{"\x00", 0, -1, 0},
		{"\xff", 0, -1, 8},
		{"\x00\xff\x00", 0, -1, 8},
		{"\x00\xff\x00", 0, 0, 0},
		{"", 0, -1, 0},
		{"", math.MinInt64, math.MaxInt64, 0},
	} {
		if count := Ones(c.s, c.start, c.stop); count != c.want {
			t.Errorf("Ones(%q, %d, %d) = %d; want %d", c.s, c.start, c.stop, count, c.want)
		}
	}
}

func TestP8_6_OnesOfEveryByteAndStretch(t *testing.T) {
	for b := range 256 {
		holdOnes(t, string([]byte{byte(b)}), 0, -1)
	}
	for _, s := range texts {
		for _, start := range places(len(s)) {
			for _, stop := range places(len(s)) {
				holdOnes(t, s, start, stop)
			}
		}
	}
}

func TestP8_6_OnesOfLongTexts(t *testing.T) {
	for _, n := range []int{maxText, maxText + 1, 3 * maxText} {
		s := strings.Repeat("\xff", n)
		if count := Ones(s, 0, -1); count != 8*n {
			t.Errorf("%d of %d bytes 255", count, n)
		}
		if count := Ones(s, 1, -2); count != 8*(n-2) {
			t.Errorf("%d of %d bytes 255 but the first and the last", count, n)
		}
	}
}

// followsOverlay holds an answer of Overlay to P8.7 alone.
func followsOverlay(t *testing.T, s string, at int, v string) {
	t.Helper()
	told, code := Overlay(s, int64(at), v)
	if code != api.OK {
		t.Fatalf("Overlay(%s, %d, %s): %d", short(s), at, short(v), code)
	}
	reach := at + len(v)
	if len(told) != max(len(s), reach) {
		t.Fatalf("Overlay(%s, %d, %s): %d bytes", short(s), at, short(v), len(told))
	}
	if Slice(told, int64(at), int64(reach)-1) != v {
		t.Fatalf("Overlay(%s, %d, %s) = %s, which does not have what was laid", short(s), at, short(v), short(told))
	}
	for k := range len(told) {
		var want byte
		if k < len(s) {
			want = s[k]
		}
		if (k < at || k >= reach) && told[k] != want {
			t.Fatalf("Overlay(%s, %d, %s): the byte %d is %d, not %d", short(s), at, short(v), k, told[k], want)
		}
	}
	if again, code := Overlay(told, int64(at), v); again != told || code != api.OK {
		t.Fatalf("Overlay(%s, %d, %s) once more: %s, %d", short(s), at, short(v), short(again), code)
	}
}

func TestP8_7_WhatOverlayTells(t *testing.T) {
	for _, s := range texts {
		for _, v := range texts[1:] {
			for at := range len(s) + 12 {
				followsOverlay(t, s, at, v)
			}
		}
	}
	followsOverlay(t, full, 0, full)
	followsOverlay(t, full, maxText-1, "x")
	followsOverlay(t, "hello", maxText-1, "x")
	followsOverlay(t, full, 4711, "x")
	r := rand.New(rand.NewPCG(8, 7))
	for range 3000 {
		followsOverlay(t, drawText(r, 100), r.IntN(150), drawText(r, 99)+"x")
	}
}

// followsSetBit holds an answer of SetBit to P8.8 alone, at the places of both texts and somewhat behind.
func followsSetBit(t *testing.T, s string, at int64, bit int) {
	t.Helper()
	told, was, code := SetBit(s, at, bit)
	if code != api.OK {
		t.Fatalf("SetBit(%s, %d, %d): %d", short(s), at, bit, code)
	}
	back, set, code := SetBit(told, at, was)
	if code != api.OK || set != bit {
		t.Fatalf("SetBit(%s, %d, %d), set back: %d, and %d was there", short(s), at, bit, code, set)
	}
	for k := range int64(8*len(told) + 20) {
		ahead, _ := Bit(s, k)
		then, _ := Bit(told, k)
		last, _ := Bit(back, k)
		if k == at && (then != bit || ahead != was) || k != at && then != ahead || last != ahead {
			t.Fatalf("SetBit(%s, %d, %d): the bit %d is %d, then %d, then %d", short(s), at, bit, k, ahead, then, last)
		}
	}
}

func TestP8_8_BitBehindSetBit(t *testing.T) {
	for _, s := range texts {
		for at := range int64(8*len(s) + 20) {
			followsSetBit(t, s, at, 0)
			followsSetBit(t, s, at, 1)
		}
	}
	r := rand.New(rand.NewPCG(8, 8))
	for range 2000 {
		followsSetBit(t, drawText(r, 40), r.Int64N(500), r.IntN(2))
	}
	followsSetBit(t, "hello", 8*maxText-1, 1)
	followsSetBit(t, full, 8*maxText-2, 1)
}

// followsOnes holds Ones of each cut of a text to P8.9 alone.
func followsOnes(t *testing.T, s string) {
	t.Helper()
	sum := 0
	for at := range int64(8 * len(s)) {
		bit, _ := Bit(s, at)
		sum += bit
	}
	if all := Ones(s, 0, -1); all != sum {
		t.Fatalf("Ones of %s: %d; the sum of its bits is %d", short(s), all, sum)
	}
	for cut := range int64(len(s) + 1) {
		if parts := Ones(s[:cut], 0, -1) + Ones(s[cut:], 0, -1); parts != sum {
			t.Fatalf("Ones of %s cut at %d: %d; want %d", short(s), cut, parts, sum)
		}
		behind := Ones(s, cut, math.MaxInt64)
		if cut > 0 {
			behind += Ones(s, 0, cut-1)
		}
		if behind != sum {
			t.Fatalf("Ones of %s ahead of %d and from there on: %d; want %d", short(s), cut, behind, sum)
		}
	}
}

func TestP8_9_OnesOfACutText(t *testing.T) {
	for _, s := range texts {
		followsOnes(t, s)
	}
	r := rand.New(rand.NewPCG(8, 9))
	for range 300 {
		followsOnes(t, drawText(r, 200))
	}
	all := Ones(full, 0, -1)
	for _, cut := range []int{0, 1, 7, 4096, maxText / 2, maxText - 1, maxText} {
		if parts := Ones(full[:cut], 0, -1) + Ones(full[cut:], 0, -1); parts != all {
			t.Errorf("the longest text cut at %d: %d; want %d", cut, parts, all)
		}
	}
}

// TestP8_RandomTexts changes one text by a long row of drawn calls, and holds each answer against what is spelled out.
func TestP8_RandomTexts(t *testing.T) {
	for seed := range uint64(20) {
		r := rand.New(rand.NewPCG(seed, 8))
		drawPlace := func(n int) int64 {
			if r.IntN(10) == 0 {
				return extremes[r.IntN(len(extremes))]
			}
			return r.Int64N(int64(2*n+10)) - int64(n/2) - 3
		}
		s := ""
		for range 500 {
			start, stop := drawPlace(len(s)), drawPlace(len(s))
			holdSlice(t, s, start, stop)
			holdOnes(t, s, start, stop)
			holdBit(t, s, drawPlace(8*len(s)))
			s = changed(t, r, s, drawPlace)
			if t.Failed() {
				t.Fatalf("seed %d", seed)
			}
			if len(s) > 300 {
				s = Slice(s, -20, -1)
			}
		}
	}
}

func changed(t *testing.T, r *rand.Rand, s string, drawPlace func(n int) int64) string {
	t.Helper()
	next, code := "", api.OK
	switch r.IntN(3) {
	case 0:
		at, v := drawPlace(len(s)), drawText(r, 12)
		holdOverlay(t, s, at, v)
		next, code = Overlay(s, at, v)
	case 1:
		v := drawText(r, 12)
		holdJoin(t, s, v)
		next, code = Join(s, v)
	case 2:
		at, bit := drawPlace(8*len(s)), r.IntN(4)-1
		if at > 1<<15 && at < 8*maxText {
			at = 1 << 15 // what is spelled out takes long for more
		}
		holdSetBit(t, s, at, bit)
		next, _, code = SetBit(s, at, bit)
	}
	if code != api.OK {
		return s
	}
	return next
}

// TestP8_TextsHandedInStay holds all calls to leave the bytes of what they are handed alone.
func TestP8_TextsHandedInStay(t *testing.T) {
	row, laid := []byte("hello, hello"), []byte("EL")
	s, v := unsafe.String(&row[0], 5), unsafe.String(&laid[0], len(laid))
	for at := range int64(12) {
		Slice(s, at, -1)
		Overlay(s, at, v)
		Join(s, v)
		Bit(s, at)
		Ones(s, at, -1)
		for bit := range 2 {
			SetBit(s, at, bit)
			SetBit(s, 8*at, bit)
		}
	}
	if !bytes.Equal(row, []byte("hello, hello")) || !bytes.Equal(laid, []byte("EL")) {
		t.Errorf("%q, %q", row, laid)
	}
}
