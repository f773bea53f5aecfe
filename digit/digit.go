// Package digit is layer 1: whole numbers as words, and places in rows (shared/doc/01-digit.md).
package digit

import (
	"math"
	"strconv"
	"strings"

	"pantry/api"
)

// uintDigits is how many digits the greatest uint64 has.
const uintDigits = 20

// Int reads a whole number of 64 bits.
func Int(s string) (int64, api.Errno) {
	digits, below := strings.CutPrefix(s, "-")
	size, code := Uint(digits)
	if code != api.OK {
		return 0, code
	}
	if below {
		return negative(size)
	}
	if size > math.MaxInt64 {
		return 0, api.ErrInt
	}
	return int64(size), api.OK
}

// negative stands apart from the numbers above 0: it lets in one more, and leaves out -0, which would be a second word for 0.
func negative(size uint64) (int64, api.Errno) {
	if size == 0 || size > 1<<63 {
		return 0, api.ErrInt
	}
	// Negated ahead of the conversion, as no int64 holds 1<<63.
	return int64(-size), api.OK
}

// Uint reads one without a sign.
func Uint(s string) (uint64, api.Errno) {
	if !oneWay(s) {
		return 0, api.ErrInt
	}
	var n uint64
	for i := range len(s) {
		if s[i] < '0' || s[i] > '9' {
			return 0, api.ErrInt
		}
		d := uint64(s[i] - '0')
		if n > (math.MaxUint64-d)/10 {
			return 0, api.ErrInt
		}
		n = n*10 + d
	}
	return n, api.OK
}

// oneWay leaves out words that no number is written as; the length is looked at here, so that a long word is refused unread.
func oneWay(s string) bool {
	if len(s) == 0 || len(s) > uintDigits {
		return false
	}
	return s[0] != '0' || len(s) == 1
}

// Text writes a whole number.
func Text(n int64) string {
	return strconv.FormatInt(n, 10)
}

// Add adds, and says when 64 bits do not hold it.
func Add(a, b int64) (int64, api.Errno) {
	tooGreat := b > 0 && a > math.MaxInt64-b
	tooSmall := b < 0 && a < math.MinInt64-b
	if tooGreat || tooSmall {
		return 0, api.ErrOver
	}
	return a + b, api.OK
}

// Span tells which places of n a stretch means: from, and behind the last.
func Span(start, stop int64, n int) (int, int) {
	size := int64(max(n, 0))
	first := max(fromFront(start, size), 0)
	last := min(fromFront(stop, size), size-1)
	if first > last {
		return 0, 0
	}
	return int(first), int(last) + 1
}

// Place tells which place of n a number means.
func Place(i int64, n int) (int, bool) {
	size := int64(max(n, 0))
	at := fromFront(i, size)
	if at < 0 || at >= size {
		return 0, false
	}
	return int(at), true
}

// fromFront can't wrap round: what is added to is below 0, and size is not.
func fromFront(i, size int64) int64 {
	if i < 0 {
		return i + size
	}
	return i
}
