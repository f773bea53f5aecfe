package score

import (
	"math"
	"math/big"
	"regexp"
	"strconv"
	"strings"
)

// What the chapter asks for, worked out from its words with exact fractions: nothing here leans on how the library reads or writes floats.

var (
	scoreForm   = regexp.MustCompile(`\A[+-]?(([0-9]+\.?[0-9]*|\.[0-9]+)([eE][+-]?[0-9]{1,5})?|[iI][nN][fF]([iI][nN][iI][tT][yY])?)\z`)
	decimalForm = regexp.MustCompile(`\A([+-]?)([0-9]*)\.?([0-9]*)(?:[eE]([+-]?[0-9]+))?\z`)
)

// isWord says whether a word is a score's.
func isWord(s string) bool {
	return len(s) <= 64 && scoreForm.MatchString(s)
}

// power is 10^n, a fraction where n is below 0.
func power(n int) *big.Rat {
	size := n
	if n < 0 {
		size = -n
	}
	ten := new(big.Int).Exp(big.NewInt(10), big.NewInt(int64(size)), nil)
	if n < 0 {
		return new(big.Rat).SetFrac(big.NewInt(1), ten)
	}
	return new(big.Rat).SetInt(ten)
}

// decimalOf is the size of the number that a score's word of digits writes, and whether a - stands there.
func decimalOf(s string) (*big.Rat, bool) {
	parts := decimalForm.FindStringSubmatch(s)
	digits, ok := new(big.Int).SetString("0"+parts[2]+parts[3], 10)
	if !ok {
		panic("no decimal: " + s)
	}
	exponent := 0
	if parts[4] != "" {
		exponent, _ = strconv.Atoi(parts[4])
	}
	// Of at most 64 digits: beyond this power each number is too great or too small for a float anyhow.
	exponent = min(max(exponent, -1000), 1000)
	size := new(big.Rat).SetInt(digits)
	return size.Mul(size, power(exponent-len(parts[3]))), parts[1] == "-"
}

// rat is a finite float as a fraction; behind the greatest one stands 2^1024.
func rat(x float64) *big.Rat {
	if math.IsInf(x, 1) {
		return new(big.Rat).SetInt(new(big.Int).Lsh(big.NewInt(1), 1024))
	}
	return new(big.Rat).SetFloat64(x)
}

// catchment is the stretch of decimals that mean a float above 0: its ends, and whether they belong to it.
type catchment struct {
	low, high *big.Rat
	ends      bool
}

func catchmentOf(size float64) catchment {
	at := rat(size)
	half := func(neighbour float64) *big.Rat {
		sum := new(big.Rat).Add(at, rat(neighbour))
		return sum.Quo(sum, big.NewRat(2, 1))
	}
	return catchment{half(math.Nextafter(size, 0)), half(math.Nextafter(size, math.Inf(1))), math.Float64bits(size)&1 == 0}
}

func (c catchment) holds(r *big.Rat) bool {
	low, high := r.Cmp(c.low), r.Cmp(c.high)
	return low > 0 && high < 0 || c.ends && (low == 0 || high == 0)
}

// nearest is the float that a decimal means, and whether it means one.
func nearest(size *big.Rat) (float64, bool) {
	if size.Cmp(catchmentOf(math.MaxFloat64).high) >= 0 {
		return 0, false
	}
	// Floats above 0 rise with their bits: so the last one that is not above the number is found by halving.
	var below, above uint64 = 0, math.Float64bits(math.MaxFloat64) + 1
	for above-below > 1 {
		middle := below + (above-below)/2
		if rat(math.Float64frombits(middle)).Cmp(size) > 0 {
			above = middle
		} else {
			below = middle
		}
	}
	x := math.Float64frombits(below)
	sum := new(big.Rat).Add(rat(x), rat(math.Nextafter(x, math.Inf(1))))
	switch sum.Quo(sum, big.NewRat(2, 1)).Cmp(size) {
	case 0:
		below += below & 1
	case -1:
		below++
	}
	return math.Float64frombits(below), true
}

// meaning is what P2.1 asks of a word.
func meaning(s string) (float64, bool) {
	if !isWord(s) {
		return 0, false
	}
	if strings.ContainsAny(s, "nN") {
		if s[0] == '-' {
			return math.Inf(-1), true
		}
		return math.Inf(1), true
	}
	size, below := decimalOf(s)
	x, ok := nearest(size)
	if ok && below {
		x = math.Copysign(x, -1)
	}
	return x, ok
}

// shortest is what P2.2 asks of a finite float above 0: its digits, and p.
func shortest(size float64) (string, int) {
	at, means := rat(size), catchmentOf(size)
	top := decade(at)
	for k := 1; ; k++ {
		var best *big.Int
		var far *big.Rat
		p := 0
		// The nearest decimals of k digits may stand in another decade than the float.
		for q := top - k - 1; q <= top-k+1; q++ {
			for _, d := range around(at, q, k) {
				r := new(big.Rat).Mul(new(big.Rat).SetInt(d), power(q))
				if !means.holds(r) {
					continue
				}
				r.Sub(r, at).Abs(r)
				if best == nil || r.Cmp(far) < 0 || r.Cmp(far) == 0 && d.Bit(0) == 0 {
					best, far, p = d, r, q+k
				}
			}
		}
		if best != nil {
			return best.String(), p
		}
	}
}

// decade is the p for which r is 0.d1d2.. * 10^p.
func decade(r *big.Rat) int {
	p := len(r.Num().String()) - len(r.Denom().String())
	if r.Cmp(power(p)) >= 0 {
		p++
	}
	return p
}

// around are the numbers of k digits that are the nearest to r / 10^q on both sides.
func around(r *big.Rat, q, k int) []*big.Int {
	scaled := new(big.Rat).Mul(r, power(-q))
	floor := new(big.Int).Quo(scaled.Num(), scaled.Denom())
	var out []*big.Int
	for add := range int64(2) {
		if d := new(big.Int).Add(floor, big.NewInt(add)); d.Sign() > 0 && len(d.String()) == k {
			out = append(out, d)
		}
	}
	return out
}

// told is the word with which the chapter tells a float.
func told(x float64) string {
	if x != x {
		return "nan"
	}
	sign := ""
	if math.Float64bits(x)>>63 == 1 {
		sign = "-"
	}
	size := math.Abs(x)
	if size == 0 {
		return sign + "0"
	}
	if math.IsInf(size, 1) {
		return sign + "inf"
	}
	return sign + laidOut(shortest(size))
}

func laidOut(digits string, p int) string {
	k := len(digits)
	switch {
	case p < -4 || p > 17:
		return withPower(digits, p-1)
	case p <= 0:
		return "0." + strings.Repeat("0", -p) + digits
	case p < k:
		return digits[:p] + "." + digits[p:]
	}
	return digits + strings.Repeat("0", p-k)
}

func withPower(digits string, exponent int) string {
	sign := "+"
	if exponent < 0 {
		sign, exponent = "-", -exponent
	}
	size := strconv.Itoa(exponent)
	if len(size) < 2 {
		size = "0" + size
	}
	if len(digits) > 1 {
		digits = digits[:1] + "." + digits[1:]
	}
	return digits + "e" + sign + size
}
