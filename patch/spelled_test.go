package patch

import (
	"fmt"
	"math/big"
	"strconv"
	"strings"
	"testing"

	"pantry/api"
)

// The chapter's promises, word by word and without a thought of how long it takes. A text's bits are a plain row of
// the signs 0 and 1; sums are those of arithmetic.

// plainRow writes every byte to the base two: its highest bit stands first.
func plainRow(s string) string {
	var row strings.Builder
	for i := 0; i < len(s); i++ {
		fmt.Fprintf(&row, "%08b", s[i])
	}
	return row.String()
}

// ofPlainRow tells the text of which plainRow tells the row.
func ofPlainRow(row string) string {
	var s strings.Builder
	for ; row != ""; row = row[8:] {
		b, err := strconv.ParseUint(row[:8], 2, 8)
		if err != nil {
			panic(err)
		}
		s.WriteByte(byte(b))
	}
	return s.String()
}

// sumAbove says whether a and b are together above a bound.
func sumAbove(a int64, b int, bound int64) bool {
	sum := new(big.Int).Add(big.NewInt(a), big.NewInt(int64(b)))
	return sum.Cmp(big.NewInt(bound)) > 0
}

func spelledSlice(s string, start, stop int64) string {
	n := int64(len(s))
	if start < 0 {
		start += n
	}
	if stop < 0 {
		stop += n
	}
	var told strings.Builder
	for k := int64(0); k < n; k++ {
		if k >= start && k <= stop {
			told.WriteByte(s[k])
		}
	}
	return told.String()
}

func spelledOverlay(s string, at int64, v string) (string, api.Errno) {
	if at < 0 {
		return "", api.ErrArg
	}
	if v == "" {
		return s, api.OK
	}
	if len(s) > 1048576 || sumAbove(at, len(v), 1048576) {
		return "", api.ErrLong
	}
	from, behind := int(at), int(at)+len(v)
	var told strings.Builder
	for k := 0; k < len(s) || k < behind; k++ {
		switch {
		case k >= from && k < behind:
			told.WriteByte(v[k-from])
		case k < len(s):
			told.WriteByte(s[k])
		default:
			told.WriteByte(0)
		}
	}
	return told.String(), api.OK
}

func spelledJoin(s, v string) (string, api.Errno) {
	if sumAbove(int64(len(s)), len(v), 1048576) {
		return "", api.ErrLong
	}
	return strings.Join([]string{s, v}, ""), api.OK
}

func spelledBit(s string, at int64) (int, api.Errno) {
	if at < 0 || at > 1073741823 {
		return 0, api.ErrArg
	}
	row := plainRow(s)
	if at < int64(len(row)) && row[at] == '1' {
		return 1, api.OK
	}
	return 0, api.OK
}

func spelledSetBit(s string, at int64, bit int) (string, int, api.Errno) {
	if at < 0 || at > 1073741823 || bit < 0 || bit > 1 {
		return "", 0, api.ErrArg
	}
	if len(s) > 1048576 || at >= 8388608 {
		return "", 0, api.ErrLong
	}
	row := plainRow(s)
	for at >= int64(len(row)) {
		row += "00000000"
	}
	was := int(row[at] - '0')
	return ofPlainRow(row[:at] + strconv.Itoa(bit) + row[at+1:]), was, api.OK
}

func spelledOnes(s string, start, stop int64) int {
	return strings.Count(plainRow(spelledSlice(s, start, stop)), "1")
}

// short tells a text as a test's message can show it.
func short(s string) string {
	if len(s) <= 40 {
		return strconv.Quote(s)
	}
	return strconv.Quote(s[:10]) + " .. (" + strconv.Itoa(len(s)) + " bytes)"
}

func holdSlice(t *testing.T, s string, start, stop int64) {
	t.Helper()
	if told, want := Slice(s, start, stop), spelledSlice(s, start, stop); told != want {
		t.Errorf("Slice(%s, %d, %d) = %s; want %s", short(s), start, stop, short(told), short(want))
	}
}

func holdOverlay(t *testing.T, s string, at int64, v string) {
	t.Helper()
	told, code := Overlay(s, at, v)
	want, wantCode := spelledOverlay(s, at, v)
	if told != want || code != wantCode {
		t.Errorf("Overlay(%s, %d, %s) = %s, %d; want %s, %d", short(s), at, short(v), short(told), code, short(want), wantCode)
	}
}

func holdJoin(t *testing.T, s, v string) {
	t.Helper()
	told, code := Join(s, v)
	want, wantCode := spelledJoin(s, v)
	if told != want || code != wantCode {
		t.Errorf("Join(%s, %s) = %s, %d; want %s, %d", short(s), short(v), short(told), code, short(want), wantCode)
	}
}

func holdBit(t *testing.T, s string, at int64) {
	t.Helper()
	bit, code := Bit(s, at)
	want, wantCode := spelledBit(s, at)
	if bit != want || code != wantCode {
		t.Errorf("Bit(%s, %d) = %d, %d; want %d, %d", short(s), at, bit, code, want, wantCode)
	}
}

func holdSetBit(t *testing.T, s string, at int64, bit int) {
	t.Helper()
	told, was, code := SetBit(s, at, bit)
	want, wantWas, wantCode := spelledSetBit(s, at, bit)
	if told != want || was != wantWas || code != wantCode {
		t.Errorf("SetBit(%s, %d, %d) = %s, %d, %d; want %s, %d, %d", short(s), at, bit, short(told), was, code, short(want), wantWas, wantCode)
	}
}

func holdOnes(t *testing.T, s string, start, stop int64) {
	t.Helper()
	if count, want := Ones(s, start, stop), spelledOnes(s, start, stop); count != want {
		t.Errorf("Ones(%s, %d, %d) = %d; want %d", short(s), start, stop, count, want)
	}
}
