package score

import (
	"math"
	"math/big"
	"math/rand"
	"sort"
	"strconv"
	"strings"
	"testing"

	"pantry/api"
)

var (
	infinity = math.Inf(1)
	minus0   = math.Copysign(0, -1)
)

// same tells the noughts apart, and takes all NaN for one.
func same(a, b float64) bool {
	return math.Float64bits(a) == math.Float64bits(b) || a != a && b != b
}

// edges are floats at which a gap, a layout or a count of digits changes, with their neighbours; all above 0 and finite.
func edges() []float64 {
	at := []float64{
		5e-324, 3 * 5e-324, math.Ldexp(1, -1022), math.Ldexp(1, -1021), math.MaxFloat64, math.Ldexp(1, 1023), math.Ldexp(1, -44),
		1e-7, 1e-6, 1e-5, 1e-4, 0.001, 0.01, 0.1, 0.3, 0.5, 1, 1.5, 2, 3, 9, 10, 99, 100, 123456, 12345.678,
		1 << 50, 1<<50 + 0.25, 1<<50 + 0.75, 1 << 52, 1 << 53, 1<<53 + 2, 1 << 54, 1e15, 1e16, 1e17, 1e18, 1e21, 1e22, 1e23, 1e100, 1e300, 1e308,
	}
	var out []float64
	for _, x := range at {
		out = append(out, x)
		if y := math.Nextafter(x, 0); y > 0 {
			out = append(out, y)
		}
		if y := math.Nextafter(x, infinity); y < infinity {
			out = append(out, y)
		}
	}
	return out
}

// anyFloats are finite floats above 0 of any bits, always the same ones.
func anyFloats(n int) []float64 {
	source := rand.New(rand.NewSource(2))
	var out []float64
	for len(out) < n {
		if x := math.Float64frombits(source.Uint64() >> 1); x > 0 && x < infinity {
			out = append(out, x)
		}
	}
	return out
}

func checkParse(t *testing.T, s string) {
	t.Helper()
	x, code := Parse(s)
	want, ok := meaning(s)
	if !ok && (code != api.ErrFloat || !same(x, 0)) {
		t.Errorf("Parse(%q) = %g, %d; want 0, ErrFloat", s, x, code)
	}
	if ok && (code != api.OK || !same(x, want)) {
		t.Errorf("Parse(%q) = %g, %d; want %g, OK", s, x, code, want)
	}
}

func checkPrint(t *testing.T, x float64) {
	t.Helper()
	if got, want := Print(x), told(x); got != want {
		t.Errorf("Print(%g) = %q; want %q", x, got, want)
	}
}

// everyWord hands each word of at most so many signs of an alphabet to a check.
func everyWord(alphabet string, most int, check func(s string)) {
	check("")
	layer := []string{""}
	for range most {
		var longer []string
		for _, s := range layer {
			for i := range len(alphabet) {
				w := s + alphabet[i:i+1]
				check(w)
				longer = append(longer, w)
			}
		}
		layer = longer
	}
}

// noScores are no scores' words, or mean nothing.
func noScores() []string {
	return []string{
		"", " ", "+", "-", ".", "e", "E", "+.", "-.", ".e1", "e1", "-e5", "+e5", ".e", "1e", "1E", "1e+", "1e-", "1.e", "1e.", "1e1.", "1e.1", "1e1.0",
		"--1", "++1", "+-1", "-+1", "1-", "1+", "1-1", "1e--1", "1e+-1", "1e++1", "1e1e1", "1ee1", "1eE1",
		"1..", "..1", "1.2.3", "1..2", "1_0", "_1", "1_", "1e1_0", "0x1", "0X1", "0x1p4", "0x.8p1", "0b1", "0o7", "1p4", "1f", "1d", "0x_1p0",
		"nan", "NaN", "NAN", "+nan", "-nan", "nan1", "in", "i", "infi", "infinit", "infinityy", "inff", "inf1", "1inf", "inf.", "infe1", "--inf", "+-inf", " inf", "inf ",
		"\u0131nf", "\uff49nf", "in\u0192", " 1", "1 ", "1 2", "\t1", "1\n", "1\r\n", "- 1", "1 e1", "1e 1", "1,5", "1/2", ":1", "1:", "/1",
		"\x00", "1\x00", "\x001", "\xff", "1\xff", "\u0663", "\uff11", "\u22121", "(1", "((1", "[1", "1)", "(", "()",
		"1e123456", "1e000001", "1e-000001", "0e000000", "0e123456", "1e+123456", "1e-123456", "12e999999", "1e99999999999999999999",
		"1e400", "-1e400", "1e309", "1e99999", "-1e99999", "1.7976931348623159e308", "-1.7976931348623159e308", "2e308", ".1e310",
	}
}

func TestP2_1_Parse(t *testing.T) {
	for _, c := range []struct {
		s    string
		want float64
	}{
		{"1", 1}, {"+1", 1}, {"-1", -1}, {"01.0", 1}, {"1e0", 1}, {".1e1", 1}, {"10E-1", 1}, {"1.", 1}, {"1.e0", 1}, {"-.5", -0.5}, {"+.5e+1", 5},
		{"0", 0}, {"+0", 0}, {"-0", minus0}, {"-.0e9", minus0}, {"0.", 0}, {"-0.", minus0}, {"0e99999", 0}, {"-0e99999", minus0}, {"0e-99999", 0}, {"00000", 0},
		{"inf", infinity}, {"+Inf", infinity}, {"-INFINITY", -infinity}, {"INF", infinity}, {"-inf", -infinity}, {"infinity", infinity}, {"+iNfInItY", infinity},
		{"1e-400", 0}, {"-1e-400", minus0}, {"-1e-99999", minus0}, {"1e-99999", 0}, {"1e00005", 1e5}, {"1E+00005", 1e5}, {"1e-00005", 1e-5},
		{"9007199254740992", 1 << 53}, {"9007199254740993", 1 << 53}, {"9007199254740993.0", 1 << 53}, {"9007199254740993.0000000000000000000000001", 1<<53 + 2},
		{"9007199254740992.9999999999999999999999999", 1 << 53}, {"9007199254740995", 1<<53 + 4}, {"9007199254740994.9999999999999999999999999", 1<<53 + 2},
		{"-9007199254740993", -1 << 53}, {"-9007199254740995", -1<<53 - 4},
		{"1125899906842624.125", 1 << 50}, {"1125899906842624.375", 1<<50 + 0.5}, {"1125899906842624.3749999999999999999999", 1<<50 + 0.25},
		{"1.7976931348623157e308", math.MaxFloat64}, {"1.7976931348623158e308", math.MaxFloat64}, {"-1.7976931348623158e308", -math.MaxFloat64},
		{"5e-324", 5e-324}, {"4.9406564584124654e-324", 5e-324}, {"2.4703282292062327e-324", 0}, {"2.4703282292062328e-324", 5e-324}, {"-2.4703282292062327e-324", minus0},
		{"7.4109846876186981e-324", 5e-324}, {"7.4109846876186982e-324", 2 * 5e-324}, {"2.2250738585072014e-308", math.Ldexp(1, -1022)},
		{"0.1", 0.1}, {"123456", 123456}, {"1e23", 1e23}, {"100000000000000000000000", 1e23},
	} {
		if x, code := Parse(c.s); code != api.OK || !same(x, c.want) {
			t.Errorf("Parse(%q) = %g, %d; want %g, OK", c.s, x, code, c.want)
		}
		checkParse(t, c.s)
	}
	for _, s := range noScores() {
		if x, code := Parse(s); code != api.ErrFloat || !same(x, 0) {
			t.Errorf("Parse(%q) = %g, %d; want 0, ErrFloat", s, x, code)
		}
	}
}

func TestP2_1_ParseOfEveryShortWord(t *testing.T) {
	check := func(s string) { checkParse(t, s) }
	everyWord("05+-.eE", 5, check)
	everyWord("1+-.e(_x ", 4, check)
	everyWord("iInNfFaA+-", 4, check)
}

func TestP2_1_ParseOfEveryByteAtEveryPlace(t *testing.T) {
	for _, word := range []string{"5", "-12", "1.5", ".5", "1e5", "-1.25E-05", "inf", "-infinity", "+INFINITY"} {
		for i := range len(word) {
			for b := range 256 {
				checkParse(t, word[:i]+string([]byte{byte(b)})+word[i+1:])
			}
		}
	}
}

func TestP2_1_ParseOfLongWords(t *testing.T) {
	for _, c := range []struct {
		head, tail string
		want       float64
	}{
		{"", "12", 12}, {"-", "1", -1}, {"+", "7.5", 7.5}, {".", "1e63", 1e3}, {"1.", "e5", 1e5}, {".", "", 0}, {"-", ".", minus0},
	} {
		word := func(size int) string {
			return c.head + strings.Repeat("0", size-len(c.head)-len(c.tail)) + c.tail
		}
		if x, code := Parse(word(64)); code != api.OK || !same(x, c.want) {
			t.Errorf("Parse(%q) = %g, %d; want %g, OK", word(64), x, code, c.want)
		}
		for _, size := range []int{65, 66, 128, 320, 4096} {
			if x, code := Parse(word(size)); code != api.ErrFloat || x != 0 {
				t.Errorf("Parse(%q) = %g, %d; want 0, ErrFloat", word(size), x, code)
			}
		}
	}
	for _, digit := range []string{"1", "5", "9"} {
		checkParse(t, strings.Repeat(digit, 64))
		checkParse(t, "."+strings.Repeat(digit, 63))
		checkParse(t, strings.Repeat(digit, 65))
	}
	for _, s := range []string{strings.Repeat("1", api.MaxText), strings.Repeat("0", api.MaxText), strings.Repeat("-", api.MaxText), "inf" + strings.Repeat(" ", 100)} {
		if x, code := Parse(s); code != api.ErrFloat || x != 0 {
			t.Errorf("Parse of a word of %d bytes = %g, %d; want 0, ErrFloat", len(s), x, code)
		}
	}
}

// middleWords are words at the middle between a float and the next one: as much of its digits as a word holds, that and the least more; the middle itself, where a word holds it all.
func middleWords(size float64) []string {
	middle := catchmentOf(size).high
	p := decade(middle)
	var out []string
	for _, k := range []int{17, 18, 19, 20, 21, 40, 57} {
		scaled := new(big.Rat).Mul(middle, power(k-p))
		digits := new(big.Int).Quo(scaled.Num(), scaled.Denom())
		for range 2 {
			out = append(out, digits.String()+"e"+strconv.Itoa(p-k))
			digits.Add(digits, big.NewInt(1))
		}
	}
	return out
}

func TestP2_1_ParseAtTheMiddles(t *testing.T) {
	for _, x := range append(edges(), anyFloats(300)...) {
		for _, s := range middleWords(x) {
			checkParse(t, s)
			checkParse(t, "-"+s)
		}
	}
	// The middles here have few digits: the tie itself is written out.
	for i := range 64 {
		checkParse(t, strconv.Itoa(1<<53+i))
		checkParse(t, strconv.Itoa(1<<54+i))
		checkParse(t, strconv.Itoa(1<<50)+"."+strconv.Itoa(i*125))
		checkParse(t, strconv.Itoa(1<<50+i)+".125")
		checkParse(t, strconv.Itoa(1<<50+i)+".375")
		checkParse(t, strconv.Itoa(1<<50+i)+".625")
		checkParse(t, strconv.Itoa(1<<50+i)+".875")
	}
}

func TestP2_1_ParseOfAnyDecimals(t *testing.T) {
	source := rand.New(rand.NewSource(1))
	for range 3000 {
		digits := make([]byte, 1+source.Intn(40))
		for i := range digits {
			digits[i] = "0123456789"[source.Intn(10)]
		}
		point := source.Intn(len(digits) + 1)
		s := string(digits[:point]) + "." + string(digits[point:])
		checkParse(t, s)
		checkParse(t, "-"+s+"e"+strconv.Itoa(source.Intn(700)-370))
	}
}

func TestP2_2_Print(t *testing.T) {
	for _, c := range []struct {
		x    float64
		want string
	}{
		{1, "1"}, {100, "100"}, {0.1, "0.1"}, {1.5, "1.5"}, {123456, "123456"}, {-1, "-1"}, {-1.5, "-1.5"}, {12345.678, "12345.678"}, {1.0 / 3, "0.3333333333333333"},
		{0, "0"}, {minus0, "-0"}, {infinity, "inf"}, {-infinity, "-inf"}, {math.NaN(), "nan"}, {math.Float64frombits(0xfff8000000000001), "nan"}, {math.Float64frombits(0x7ff0000000000001), "nan"},
		{0.0001, "0.0001"}, {0.00001, "0.00001"}, {0.000001, "1e-06"}, {0.00012, "0.00012"}, {0.000012, "0.000012"}, {0.0000012, "1.2e-06"}, {-0.00001, "-0.00001"}, {-0.000001, "-1e-06"},
		{0.000009999999999999999, "9.999999999999999e-06"}, {0.00001234567890123456, "0.00001234567890123456"},
		{1e15, "1000000000000000"}, {1e16, "10000000000000000"}, {1e17, "1e+17"}, {-1e17, "-1e+17"}, {99999999999999984, "99999999999999980"}, {12345678901234567, "12345678901234568"},
		{123456789012345680, "1.2345678901234568e+17"}, {1e100, "1e+100"}, {1e-100, "1e-100"}, {1e9, "1000000000"}, {1e23, "1e+23"}, {-1e23, "-1e+23"}, {1.5e-9, "1.5e-09"},
		{5e-324, "5e-324"}, {-5e-324, "-5e-324"}, {2 * 5e-324, "1e-323"}, {3 * 5e-324, "1.5e-323"}, {math.MaxFloat64, "1.7976931348623157e+308"}, {-math.MaxFloat64, "-1.7976931348623157e+308"},
		{1125899906842624.25, "1125899906842624.2"}, {1125899906842624.75, "1125899906842624.8"}, {1125899906842625.25, "1125899906842625.2"},
		{math.Ldexp(1, -44), "5.684341886080802e-14"}, {math.Ldexp(1, -1022), "2.2250738585072014e-308"}, {1 << 53, "9007199254740992"}, {1 << 62, "4.611686018427388e+18"},
	} {
		if got := Print(c.x); got != c.want {
			t.Errorf("Print(%g) = %q; want %q", c.x, got, c.want)
		}
	}
}

func TestP2_2_PrintAtTheEdges(t *testing.T) {
	for _, x := range append(edges(), anyFloats(400)...) {
		checkPrint(t, x)
		checkPrint(t, -x)
	}
	for i := range 200 {
		checkPrint(t, float64(i)*5e-324)
		checkPrint(t, 1<<50+float64(i)/4)
		checkPrint(t, 1<<49+float64(i)/8)
		checkPrint(t, float64(i)/100)
	}
}

func TestP2_2_PrintOfPowersOfTwo(t *testing.T) {
	for e := -1074; e < 1024; e++ {
		checkPrint(t, math.Ldexp(1, e))
	}
}

// The layout turns at p of -4 and 17; the float ahead of a power of ten has the p ahead.
func TestP2_2_PrintWhereTheLayoutTurns(t *testing.T) {
	for exponent := -9; exponent <= 20; exponent++ {
		ten, _ := nearest(power(exponent))
		for _, x := range []float64{math.Nextafter(ten, 0), ten, math.Nextafter(ten, infinity), 1.5 * ten, 9.5 * ten} {
			got := Print(x)
			checkPrint(t, x)
			_, p := shortest(x)
			if plain := !strings.Contains(got, "e"); plain != (p >= -4 && p <= 17) {
				t.Errorf("Print(%g) = %q: laid out plain: %t, with a p of %d", x, got, plain, p)
			}
		}
	}
}

func TestP2_3_Add(t *testing.T) {
	nan := math.NaN()
	for _, c := range []struct {
		a, b, sum float64
		code      api.Errno
	}{
		{1, 2, 3, api.OK}, {0.1, 0.2, 0.30000000000000004, api.OK}, {-1, 1, 0, api.OK}, {1.5, -2, -0.5, api.OK},
		{0, 0, 0, api.OK}, {minus0, minus0, minus0, api.OK}, {0, minus0, 0, api.OK}, {minus0, 0, 0, api.OK}, {minus0, 5, 5, api.OK},
		{1 << 53, 1, 1 << 53, api.OK}, {1<<53 + 2, 1, 1<<53 + 4, api.OK}, {5e-324, 5e-324, 2 * 5e-324, api.OK}, {1, 5e-324, 1, api.OK},
		{math.MaxFloat64, math.MaxFloat64, infinity, api.OK}, {-math.MaxFloat64, -math.MaxFloat64, -infinity, api.OK}, {math.MaxFloat64, 1, math.MaxFloat64, api.OK},
		{infinity, 1, infinity, api.OK}, {1, -infinity, -infinity, api.OK}, {infinity, infinity, infinity, api.OK}, {-infinity, -infinity, -infinity, api.OK}, {infinity, -math.MaxFloat64, infinity, api.OK},
		{infinity, -infinity, 0, api.ErrFloat}, {-infinity, infinity, 0, api.ErrFloat}, {nan, 1, 0, api.ErrFloat}, {1, nan, 0, api.ErrFloat}, {nan, nan, 0, api.ErrFloat}, {nan, infinity, 0, api.ErrFloat},
	} {
		if sum, code := Add(c.a, c.b); !same(sum, c.sum) || code != c.code {
			t.Errorf("Add(%g, %g) = %g, %d; want %g, %d", c.a, c.b, sum, code, c.sum, c.code)
		}
	}
}

// The sum is rounded once: it is the float nearest to the exact one.
func TestP2_3_AddIsRoundedToTheNearest(t *testing.T) {
	for _, a := range edges() {
		for _, b := range append(anyFloats(10), 5e-324, math.Ldexp(1, -1022), 0.1, 0.25, 1, 3, 1<<53, 1<<53+2, 1e23, math.Ldexp(1, 970), math.MaxFloat64) {
			sum, code := Add(a, b)
			want, ok := nearest(new(big.Rat).Add(rat(a), rat(b)))
			if !ok {
				want = infinity
			}
			if code != api.OK || !same(sum, want) {
				t.Fatalf("Add(%g, %g) = %g, %d; want %g, OK", a, b, sum, code, want)
			}
		}
	}
}

func TestP2_4_ParseBound(t *testing.T) {
	for _, c := range []struct {
		s    string
		want api.Bound
	}{
		{"5", api.Bound{At: 5}}, {"(5", api.Bound{At: 5, Open: true}}, {"-5", api.Bound{At: -5}}, {"(-5", api.Bound{At: -5, Open: true}}, {"(+.5e1", api.Bound{At: 5, Open: true}},
		{"inf", api.Bound{At: infinity}}, {"-inf", api.Bound{At: -infinity}}, {"(inf", api.Bound{At: infinity, Open: true}}, {"(-INFINITY", api.Bound{At: -infinity, Open: true}},
		{"0", api.Bound{}}, {"-0", api.Bound{At: minus0}}, {"(-0", api.Bound{At: minus0, Open: true}}, {"(1e-400", api.Bound{Open: true}},
		{strings.Repeat("0", 63) + "7", api.Bound{At: 7}}, {"(" + strings.Repeat("0", 63) + "7", api.Bound{At: 7, Open: true}},
	} {
		if b, code := ParseBound(c.s); code != api.OK || !same(b.At, c.want.At) || b.Open != c.want.Open {
			t.Errorf("ParseBound(%q) = %v, %d; want %v, OK", c.s, b, code, c.want)
		}
	}
	wrong := []string{"(", "((", "((5", "( 5", "(5(", "5(", "(5)", "5)", "[5", "-(5", "+(5", "()", ")5", "(" + strings.Repeat("0", 64) + "7", strings.Repeat("0", 64) + "7", strings.Repeat("(", 64)}
	for _, s := range noScores() {
		if !strings.HasPrefix(s, "(") {
			wrong = append(wrong, s)
		}
		wrong = append(wrong, "("+s)
	}
	for _, s := range wrong {
		if b, code := ParseBound(s); code != api.ErrFloat || !same(b.At, 0) || b.Open {
			t.Errorf("ParseBound(%q) = %v, %d; want nothing, ErrFloat", s, b, code)
		}
	}
}

func TestP2_4_ParseBoundOfEveryShortWord(t *testing.T) {
	everyWord("(5+.e)", 4, func(s string) {
		word, open := strings.CutPrefix(s, "(")
		at, ok := meaning(word)
		want, code := api.Bound{At: at, Open: open}, api.OK
		if !ok {
			want, code = api.Bound{}, api.ErrFloat
		}
		if b, got := ParseBound(s); b != want || got != code {
			t.Errorf("ParseBound(%q) = %v, %d; want %v, %d", s, b, got, want, code)
		}
	})
}

// order is how two floats that are no NaN stand to each other, without a comparison of floats.
func order(a, b float64) int {
	key := func(x float64) int64 {
		bits := math.Float64bits(x)
		if bits>>63 == 1 {
			return -int64(bits &^ (1 << 63))
		}
		return int64(bits)
	}
	switch ka, kb := key(a), key(b); {
	case ka < kb:
		return -1
	case ka > kb:
		return 1
	}
	return 0
}

func TestP2_5_Within(t *testing.T) {
	nan := math.NaN()
	shut := func(at float64) api.Bound { return api.Bound{At: at} }
	open := func(at float64) api.Bound { return api.Bound{At: at, Open: true} }
	for _, c := range []struct {
		x      float64
		lo, hi api.Bound
		want   bool
	}{
		{5, shut(5), shut(5), true}, {5, open(5), shut(5), false}, {5, shut(5), open(5), false}, {5, open(5), open(5), false},
		{5, shut(1), shut(9), true}, {5, open(1), open(9), true}, {1, shut(1), shut(9), true}, {1, open(1), shut(9), false}, {9, shut(1), shut(9), true}, {9, shut(1), open(9), false},
		{0.5, shut(1), shut(9), false}, {9.5, shut(1), shut(9), false}, {5, shut(9), shut(1), false},
		{infinity, shut(-infinity), shut(infinity), true}, {infinity, shut(-infinity), open(infinity), false}, {-infinity, open(-infinity), shut(infinity), false}, {math.MaxFloat64, open(-infinity), open(infinity), true},
		{0, shut(minus0), shut(minus0), true}, {minus0, shut(0), shut(0), true}, {minus0, open(0), shut(infinity), false}, {0, shut(-infinity), open(minus0), false}, {0, open(minus0), shut(1), false},
		{5e-324, open(0), open(1), true}, {-5e-324, shut(minus0), shut(1), false},
		{nan, shut(-infinity), shut(infinity), false}, {5, shut(nan), shut(infinity), false}, {5, shut(-infinity), shut(nan), false}, {5, open(nan), open(nan), false}, {nan, shut(nan), shut(nan), false},
	} {
		if got := Within(c.x, c.lo, c.hi); got != c.want {
			t.Errorf("Within(%g, %v, %v) = %t; want %t", c.x, c.lo, c.hi, got, c.want)
		}
	}
}

func TestP2_5_WithinOfAllOrders(t *testing.T) {
	list := []float64{-infinity, -math.MaxFloat64, -1, -5e-324, minus0, 0, 5e-324, 1, math.Nextafter(1, 2), 2, math.MaxFloat64, infinity}
	for _, x := range list {
		for _, lo := range list {
			for _, hi := range list {
				for open := range 4 {
					loOpen, hiOpen := open&1 == 1, open&2 == 2
					above := order(x, lo) > 0 || order(x, lo) == 0 && !loOpen
					below := order(x, hi) < 0 || order(x, hi) == 0 && !hiOpen
					if got := Within(x, api.Bound{At: lo, Open: loOpen}, api.Bound{At: hi, Open: hiOpen}); got != (above && below) {
						t.Errorf("Within(%g, %g %t, %g %t) = %t", x, lo, loOpen, hi, hiOpen, got)
					}
				}
			}
		}
	}
}

func TestP2_6_ThereAndBack(t *testing.T) {
	list := append(edges(), anyFloats(20000)...)
	for i := range 3000 {
		list = append(list, float64(i)*5e-324, float64(i)/1000, 1<<50+float64(i)/4)
	}
	for e := -1074; e < 1024; e++ {
		list = append(list, math.Ldexp(1, e))
	}
	words := map[string]uint64{}
	for _, size := range append(list, 0, infinity) {
		for _, x := range []float64{size, -size, math.Copysign(size, -1)} {
			s := Print(x)
			if back, code := Parse(s); code != api.OK || !same(back, x) {
				t.Errorf("Parse(Print(%g)) = Parse(%q) = %g, %d", x, s, back, code)
			}
			if bits, seen := words[s]; seen && bits != math.Float64bits(x) {
				t.Errorf("%q tells %g and %g", s, x, math.Float64frombits(bits))
			}
			words[s] = math.Float64bits(x)
		}
	}
	if x, code := Parse(Print(math.NaN())); code != api.ErrFloat || x != 0 {
		t.Errorf("Parse of the word for NaN = %g, %d; want 0, ErrFloat", x, code)
	}
}

func TestP2_7_InOrder(t *testing.T) {
	words := []string{"0", "0.0", "1e-400", "1e-99999", "1", "1.0", "01e0", "10e-1", "9007199254740993", "9007199254740992.9", "9007199254740993.1", "1e15", "999999999999999.9", "1e23", "99999999999999999999999"}
	for _, x := range append(edges(), anyFloats(40)...) {
		words = append(words, middleWords(x)...)
		words = append(words, Print(x))
	}
	type number struct {
		word  string
		size  *big.Rat
		means float64
	}
	var list []number
	for _, s := range words {
		if x, code := Parse(s); code == api.OK {
			size, _ := decimalOf(s)
			list = append(list, number{s, size, x})
		}
	}
	sort.Slice(list, func(i, j int) bool { return list[i].size.Cmp(list[j].size) < 0 })
	for i := range len(list) - 1 {
		a, b := list[i], list[i+1]
		if order(a.means, b.means) > 0 || a.size.Cmp(b.size) == 0 && order(a.means, b.means) != 0 {
			t.Errorf("Parse(%q) = %g, and Parse(%q) = %g", a.word, a.means, b.word, b.means)
		}
		below, _ := Parse("-" + b.word)
		above, _ := Parse("-" + a.word)
		if order(below, above) > 0 {
			t.Errorf("Parse of - and %q = %g, and of - and %q = %g", b.word, below, a.word, above)
		}
	}
}

// countDigits counts the digits ahead of the e, without the noughts at both ends.
func countDigits(s string) int {
	ahead, _, _ := strings.Cut(strings.TrimPrefix(s, "-"), "e")
	digits := strings.Trim(strings.Replace(ahead, ".", "", 1), "0")
	return len(digits)
}

// fewerDigits says whether a decimal of fewer than k digits means a float above 0.
func fewerDigits(size float64, k int) bool {
	at, means := rat(size), catchmentOf(size)
	top := decade(at)
	for fewer := 1; fewer < k; fewer++ {
		for q := top - fewer - 1; q <= top-fewer+1; q++ {
			for _, d := range around(at, q, fewer) {
				if means.holds(new(big.Rat).Mul(new(big.Rat).SetInt(d), power(q))) {
					return true
				}
			}
		}
	}
	return false
}

func TestP2_8_Shortest(t *testing.T) {
	for _, x := range append(edges(), anyFloats(300)...) {
		s := Print(x)
		if fewerDigits(x, countDigits(s)) {
			t.Errorf("Print(%g) = %q: fewer digits mean it, too", x, s)
		}
	}
}

func TestP2_8_AtMost24Bytes(t *testing.T) {
	longest := 0
	check := func(x float64) {
		for _, s := range []string{Print(x), Print(-x)} {
			longest = max(longest, len(s))
			if len(s) > 24 {
				t.Errorf("Print(%g) = %q: %d bytes", x, s, len(s))
			}
		}
	}
	source := rand.New(rand.NewSource(3))
	for _, x := range append(edges(), anyFloats(20000)...) {
		check(x)
	}
	for range 20000 {
		check(source.Float64() * math.Pow(10, float64(source.Intn(26)-7)))
	}
	check(0)
	check(infinity)
	check(math.NaN())
	if longest != 24 {
		t.Errorf("the longest word had %d bytes; -1.7976931348623157e+308 has 24", longest)
	}
}
