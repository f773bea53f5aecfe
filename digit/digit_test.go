package digit

import (
	"math"
	"math/big"
	"regexp"
	"strings"
	"testing"

	"pantry/api"
)

var (
	leastInt     = big.NewInt(math.MinInt64)
	greatestInt  = big.NewInt(math.MaxInt64)
	greatestUint = new(big.Int).SetUint64(math.MaxUint64)

	intForm  = regexp.MustCompile(`\A(0|-?[1-9][0-9]{0,18})\z`)
	uintForm = regexp.MustCompile(`\A(0|[1-9][0-9]{0,19})\z`)
)

// edges are the numbers at which a bound, a sign or a count of digits changes.
var edges = []int64{
	math.MinInt64, math.MinInt64 + 1, math.MinInt64 + 2, -1e18 - 1, -1e18, -1e18 + 1, -1 << 53, math.MinInt32,
	-101, -100, -99, -12, -11, -10, -9, -6, -5, -4, -3, -2, -1, 0, 1, 2, 3, 4, 5, 6, 9, 10, 11, 12, 99, 100, 101,
	math.MaxInt32, 1 << 53, 1e18 - 1, 1e18, 1e18 + 1, math.MaxInt64 - 2, math.MaxInt64 - 1, math.MaxInt64,
}

// noWords are wrong for Int and for Uint.
var noWords = []string{
	"", "-", "--", "+", "+1", "+0", "01", "-0", "+-1", "--1", "-+1", "00", "-00", "-01", "007", "000000000000000000001",
	"1.0", "1.", ".1", "1e3", "0x10", "1_000", "1,000",
	" ", " 1", "1 ", "1 2", "\t1", "1\n", "\r\n", "- 1", "-1 ",
	"a", "1a", "a1", "1a1", "0a", "0-", "1-", "1-1", "inf", "nan",
	"/", ":", "1/", "1:", "/1", ":1", "\x00", "1\x00", "\x001", "\xff", "1\xff", "\xb0\xb1", "\u0663", "\uff11", "\u22121",
	"12345678901234567890123", "-12345678901234567890123", "99999999999999999999", "-99999999999999999999",
	"18446744073709551616", "18446744073709551617", "18446744073709551625", "18446744073709551710", "-18446744073709551615",
	"36893488147419103232", "100000000000000000000", "184467440737095516150", "-9223372036854775809",
}

// tell says what a promise asks of a word: the number, and whether there is one.
func tell(s string, form *regexp.Regexp, least, greatest *big.Int) (*big.Int, bool) {
	if !form.MatchString(s) {
		return nil, false
	}
	n, ok := new(big.Int).SetString(s, 10)
	if !ok || n.Cmp(least) < 0 || n.Cmp(greatest) > 0 {
		return nil, false
	}
	return n, true
}

func checkInt(t *testing.T, s string) {
	t.Helper()
	n, code := Int(s)
	want, ok := tell(s, intForm, leastInt, greatestInt)
	if !ok && (n != 0 || code != api.ErrInt) {
		t.Errorf("Int(%q) = %d, %d; want 0, ErrInt", s, n, code)
	}
	if ok && (n != want.Int64() || code != api.OK) {
		t.Errorf("Int(%q) = %d, %d; want %d, OK", s, n, code, want)
	}
}

func checkUint(t *testing.T, s string) {
	t.Helper()
	n, code := Uint(s)
	want, ok := tell(s, uintForm, new(big.Int), greatestUint)
	if !ok && (n != 0 || code != api.ErrInt) {
		t.Errorf("Uint(%q) = %d, %d; want 0, ErrInt", s, n, code)
	}
	if ok && (n != want.Uint64() || code != api.OK) {
		t.Errorf("Uint(%q) = %d, %d; want %d, OK", s, n, code, want)
	}
}

// everyWord hands each word of at most so many signs of an alphabet to a check.
func everyWord(alphabet string, most int, check func(s string)) {
	check("")
	layer := []string{""}
	for range most {
		var longer []string
		for _, s := range layer {
			for i := range len(alphabet) {
				w := s + alphabet[i:i+1]
				check(w)
				longer = append(longer, w)
			}
		}
		layer = longer
	}
}

// aroundBounds hands the words of all numbers near those bounds, with and without a -, to a check.
func aroundBounds(check func(s string)) {
	for _, bound := range []string{
		"1", "10", "100", "999999999999999999", "1000000000000000000", "1844674407370955161", "1844674407370955162",
		"9223372036854775807", "9223372036854775808", "9999999999999999999", "10000000000000000000",
		"18446744073709551615", "18446744073709551616", "36893488147419103232", "99999999999999999999", "100000000000000000000",
	} {
		n, _ := new(big.Int).SetString(bound, 10)
		for d := int64(-30); d <= 30; d++ {
			w := new(big.Int).Add(n, big.NewInt(d)).String()
			check(w)
			check("-" + w)
			check("0" + w)
			check(w + "0")
		}
	}
}

func TestP1_1_Int(t *testing.T) {
	for _, c := range []struct {
		s    string
		want int64
	}{
		{"0", 0}, {"7", 7}, {"-12", -12}, {"1", 1}, {"-1", -1}, {"10", 10}, {"-10", -10}, {"1234567890", 1234567890},
		{"9223372036854775807", math.MaxInt64}, {"-9223372036854775808", math.MinInt64}, {"-9223372036854775807", -math.MaxInt64},
		{"1000000000000000000", 1e18}, {"-1000000000000000000", -1e18},
	} {
		if n, code := Int(c.s); n != c.want || code != api.OK {
			t.Errorf("Int(%q) = %d, %d; want %d, OK", c.s, n, code, c.want)
		}
	}
	wrong := append([]string{"9223372036854775808", "-9223372036854775809", "12345678901234567890", "18446744073709551615", "-18446744073709551616"}, noWords...)
	for _, s := range wrong {
		if n, code := Int(s); n != 0 || code != api.ErrInt {
			t.Errorf("Int(%q) = %d, %d; want 0, ErrInt", s, n, code)
		}
	}
}

func TestP1_1_IntOfManyWords(t *testing.T) {
	check := func(s string) { checkInt(t, s) }
	everyWord("0189-+. a/:", 4, check)
	aroundBounds(check)
}

func TestP1_2_Uint(t *testing.T) {
	for _, c := range []struct {
		s    string
		want uint64
	}{
		{"0", 0}, {"9", 9}, {"10", 10}, {"9223372036854775807", math.MaxInt64}, {"9223372036854775808", 1 << 63},
		{"9999999999999999999", 9999999999999999999}, {"10000000000000000000", 1e19}, {"18446744073709551615", math.MaxUint64},
	} {
		if n, code := Uint(c.s); n != c.want || code != api.OK {
			t.Errorf("Uint(%q) = %d, %d; want %d, OK", c.s, n, code, c.want)
		}
	}
	wrong := append([]string{"-1", "-7", "-12", "-9223372036854775808"}, noWords...)
	for _, s := range wrong {
		if n, code := Uint(s); n != 0 || code != api.ErrInt {
			t.Errorf("Uint(%q) = %d, %d; want 0, ErrInt", s, n, code)
		}
	}
}

func TestP1_2_UintOfManyWords(t *testing.T) {
	check := func(s string) { checkUint(t, s) }
	everyWord("0189-+. a/:", 4, check)
	aroundBounds(check)
}

// A byte at any place of a word counts, whatever its value.
func TestP1_1_P1_2_EveryByteAtEveryPlace(t *testing.T) {
	for _, word := range []string{"5", "-5", "12", "-12", "1234567890123456789", "-1234567890123456789", "12345678901234567890"} {
		for i := range len(word) {
			for b := range 256 {
				s := word[:i] + string([]byte{byte(b)}) + word[i+1:]
				checkInt(t, s)
				checkUint(t, s)
			}
		}
	}
}

func TestP1_1_P1_2_LongWords(t *testing.T) {
	for _, s := range []string{strings.Repeat("1", api.MaxText), "-" + strings.Repeat("9", api.MaxText), strings.Repeat("0", api.MaxText), strings.Repeat("-", api.MaxText)} {
		if n, code := Int(s); n != 0 || code != api.ErrInt {
			t.Errorf("Int of a long word = %d, %d; want 0, ErrInt", n, code)
		}
		if n, code := Uint(s); n != 0 || code != api.ErrInt {
			t.Errorf("Uint of a long word = %d, %d; want 0, ErrInt", n, code)
		}
	}
}

func TestP1_3_Text(t *testing.T) {
	for _, c := range []struct {
		n    int64
		want string
	}{
		{0, "0"}, {7, "7"}, {-1, "-1"}, {-12, "-12"}, {10, "10"}, {-100, "-100"}, {1e18, "1000000000000000000"},
		{math.MaxInt64, "9223372036854775807"}, {math.MinInt64, "-9223372036854775808"},
	} {
		if got := Text(c.n); got != c.want {
			t.Errorf("Text(%d) = %q; want %q", c.n, got, c.want)
		}
	}
	for _, n := range edges {
		if got, want := Text(n), big.NewInt(n).String(); got != want {
			t.Errorf("Text(%d) = %q; want %q", n, got, want)
		}
	}
}

func TestP1_4_Add(t *testing.T) {
	for _, c := range []struct {
		a, b, sum int64
		code      api.Errno
	}{
		{2, 3, 5, api.OK}, {-2, -3, -5, api.OK}, {2, -3, -1, api.OK}, {0, 0, 0, api.OK},
		{math.MaxInt64, 1, 0, api.ErrOver}, {1, math.MaxInt64, 0, api.ErrOver},
		{math.MinInt64, -1, 0, api.ErrOver}, {-1, math.MinInt64, 0, api.ErrOver},
		{math.MaxInt64, 0, math.MaxInt64, api.OK}, {math.MinInt64, 0, math.MinInt64, api.OK},
		{math.MaxInt64 - 1, 1, math.MaxInt64, api.OK}, {math.MinInt64 + 1, -1, math.MinInt64, api.OK},
		{math.MaxInt64, math.MaxInt64, 0, api.ErrOver}, {math.MinInt64, math.MinInt64, 0, api.ErrOver},
		{math.MinInt64, math.MaxInt64, -1, api.OK}, {math.MaxInt64, math.MinInt64, -1, api.OK},
	} {
		if n, code := Add(c.a, c.b); n != c.sum || code != c.code {
			t.Errorf("Add(%d, %d) = %d, %d; want %d, %d", c.a, c.b, n, code, c.sum, c.code)
		}
	}
}

func TestP1_4_AddOfAllEdges(t *testing.T) {
	for _, a := range edges {
		for _, b := range edges {
			want, code := int64(0), api.ErrOver
			if sum := new(big.Int).Add(big.NewInt(a), big.NewInt(b)); sum.IsInt64() {
				want, code = sum.Int64(), api.OK
			}
			if n, got := Add(a, b); n != want || got != code {
				t.Errorf("Add(%d, %d) = %d, %d; want %d, %d", a, b, n, got, want, code)
			}
		}
	}
}

func TestP1_5_Span(t *testing.T) {
	for _, c := range []struct {
		start, stop  int64
		n            int
		first, after int
	}{
		{0, -1, 5, 0, 5}, {1, 2, 5, 1, 3}, {-2, -1, 5, 3, 5}, {-100, 1, 5, 0, 2}, {3, 100, 5, 3, 5},
		{3, 2, 5, 0, 0}, {5, 9, 5, 0, 0}, {0, -6, 5, 0, 0}, {0, -1, 0, 0, 0},
		{math.MinInt64, math.MaxInt64, 5, 0, 5}, {math.MaxInt64, math.MinInt64, 5, 0, 0},
		{math.MinInt64, math.MinInt64, 5, 0, 0}, {math.MaxInt64, math.MaxInt64, 5, 0, 0},
		{0, 0, 5, 0, 1}, {4, 4, 5, 4, 5}, {-5, -5, 5, 0, 1}, {-1, -1, 5, 4, 5}, {-6, -6, 5, 0, 0}, {-6, -5, 5, 0, 1},
		{4, 5, 5, 4, 5}, {5, 5, 5, 0, 0}, {2, 1, 5, 0, 0}, {-1, -2, 5, 0, 0}, {0, 0, 1, 0, 1}, {-1, 0, 1, 0, 1},
		{0, 0, 0, 0, 0}, {-1, -1, 0, 0, 0}, {math.MinInt64, math.MaxInt64, 0, 0, 0},
		{0, 0, -1, 0, 0}, {0, -1, -3, 0, 0}, {-9, 9, -5, 0, 0}, {math.MinInt64, math.MaxInt64, math.MinInt, 0, 0}, {math.MinInt64, math.MinInt64, math.MinInt, 0, 0},
		{0, -1, math.MaxInt, 0, math.MaxInt}, {math.MinInt64, math.MaxInt64, math.MaxInt, 0, math.MaxInt},
		{-1, -1, math.MaxInt, math.MaxInt - 1, math.MaxInt}, {-math.MaxInt, 0, math.MaxInt, 0, 1}, {1, -2, math.MaxInt, 1, math.MaxInt - 1},
	} {
		if first, after := Span(c.start, c.stop, c.n); first != c.first || after != c.after {
			t.Errorf("Span(%d, %d, %d) = %d, %d; want %d, %d", c.start, c.stop, c.n, first, after, c.first, c.after)
		}
	}
}

// fromStart counts a place from the row's first one, with numbers that can't wrap round.
func fromStart(i int64, n int) *big.Int {
	at := big.NewInt(i)
	if i < 0 {
		at.Add(at, big.NewInt(int64(max(n, 0))))
	}
	return at
}

func TestP1_6_Place(t *testing.T) {
	for _, c := range []struct {
		i    int64
		n    int
		at   int
		have bool
	}{
		{0, 3, 0, true}, {1, 3, 1, true}, {2, 3, 2, true}, {-1, 3, 2, true}, {-3, 3, 0, true}, {0, 1, 0, true}, {-1, 1, 0, true},
		{3, 3, 0, false}, {-4, 3, 0, false}, {0, 0, 0, false}, {-1, 0, 0, false}, {1, 1, 0, false}, {-2, 1, 0, false},
		{math.MinInt64, 3, 0, false}, {math.MaxInt64, 3, 0, false}, {1 << 32, 3, 0, false}, {-1 << 32, 3, 0, false},
		{0, -7, 0, false}, {-1, -7, 0, false}, {-8, -7, 0, false}, {math.MinInt64, math.MinInt, 0, false},
		{math.MaxInt - 1, math.MaxInt, math.MaxInt - 1, true}, {math.MaxInt, math.MaxInt, 0, false},
		{-1, math.MaxInt, math.MaxInt - 1, true}, {-math.MaxInt, math.MaxInt, 0, true}, {math.MinInt64, math.MaxInt, 0, false},
	} {
		if at, have := Place(c.i, c.n); at != c.at || have != c.have {
			t.Errorf("Place(%d, %d) = %d, %t; want %d, %t", c.i, c.n, at, have, c.at, c.have)
		}
	}
}

func TestP1_6_PlaceOfAllEdges(t *testing.T) {
	for _, i := range edges {
		for _, n := range []int{math.MinInt, -2, -1, 0, 1, 2, 5, 6, 100, math.MaxInt32, math.MaxInt - 1, math.MaxInt} {
			at := fromStart(i, n)
			have := at.Sign() >= 0 && at.Cmp(big.NewInt(int64(n))) < 0
			want := 0
			if have {
				want = int(at.Int64())
			}
			if got, ok := Place(i, n); got != want || ok != have {
				t.Errorf("Place(%d, %d) = %d, %t; want %d, %t", i, n, got, ok, want, have)
			}
		}
	}
}

func TestP1_7_ThereAndBack(t *testing.T) {
	check := func(n int64) {
		s := Text(n)
		if back, code := Int(s); back != n || code != api.OK {
			t.Errorf("Int(Text(%d)) = %d, %d", n, back, code)
		}
	}
	for _, n := range edges {
		check(n)
	}
	for n := int64(-1100); n <= 1100; n++ {
		check(n)
	}
	for bit := range 63 {
		for d := int64(-1); d <= 1; d++ {
			check(int64(1)<<bit + d)
			check(-(int64(1)<<bit + d))
		}
	}
}

func TestP1_7_BackAndThere(t *testing.T) {
	told := 0
	check := func(s string) {
		n, code := Int(s)
		if code != api.OK {
			return
		}
		told++
		if got := Text(n); got != s {
			t.Errorf("Text(Int(%q)) = %q", s, got)
		}
	}
	everyWord("0189-+. ", 4, check)
	aroundBounds(check)
	if told < 1000 {
		t.Errorf("Int told only %d of the words", told)
	}
}

// inStretch says what P1.8 asks of a place.
func inStretch(k int, start, stop int64, n int) bool {
	at := big.NewInt(int64(k))
	return at.Cmp(fromStart(start, n)) >= 0 && at.Cmp(fromStart(stop, n)) <= 0
}

func checkStretch(t *testing.T, start, stop int64, n int) {
	t.Helper()
	first, after := Span(start, stop, n)
	if first < 0 || after > max(n, 0) || first > after || first == after && first != 0 {
		t.Errorf("Span(%d, %d, %d) = %d, %d: no stretch of the row", start, stop, n, first, after)
	}
	for k := range max(n, 0) {
		told := k >= first && k < after
		if want := inStretch(k, start, stop, n); told != want {
			t.Errorf("Span(%d, %d, %d) = %d, %d: place %d is told: %t; want %t", start, stop, n, first, after, k, told, want)
		}
	}
}

func TestP1_8_Stretch(t *testing.T) {
	for n := -2; n <= 7; n++ {
		for start := int64(-10); start <= 10; start++ {
			for stop := int64(-10); stop <= 10; stop++ {
				checkStretch(t, start, stop, n)
			}
		}
		for _, start := range edges {
			for _, stop := range edges {
				checkStretch(t, start, stop, n)
			}
		}
	}
}
