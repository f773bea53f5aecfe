package draw

import "math/big"

// The chapter's hash built anew, with numbers that do not wrap round: what stands above 2^64 is taken off by dividing.
// And the way back, from a hash and its text to the seed: there is one only if no two seeds have the same hash.

var (
	all64     = new(big.Int).Lsh(big.NewInt(1), 64)
	firstWord = hex("CBF29CE484222325")
	perByte   = hex("100000001B3")
	atTheEnd  = hex("9E3779B97F4A7C15")
)

func hex(digits string) *big.Int {
	n, ok := new(big.Int).SetString(digits, 16)
	if !ok {
		panic(digits)
	}
	return n
}

func times(h, factor *big.Int) *big.Int {
	product := new(big.Int).Mul(h, factor)
	return product.Mod(product, all64)
}

func overTwoTo(h *big.Int, power uint) *big.Int {
	return new(big.Int).Div(h, new(big.Int).Lsh(big.NewInt(1), power))
}

func either(a, b *big.Int) *big.Int { return new(big.Int).Xor(a, b) }

// spelledHash says what P4.1 asks of Hash.
func spelledHash(seed uint64, s string) uint64 {
	h := either(firstWord, new(big.Int).SetUint64(seed))
	for _, b := range []byte(s) {
		h = times(either(h, big.NewInt(int64(b))), perByte)
	}
	h = either(h, overTwoTo(h, 32))
	h = times(h, atTheEnd)
	h = either(h, overTwoTo(h, 29))
	return h.Uint64()
}

// seedOf tells the seed of which a text has that hash.
func seedOf(hash uint64, s string) uint64 {
	h := new(big.Int).SetUint64(hash)
	h = unfold(h, 29)
	h = times(h, new(big.Int).ModInverse(atTheEnd, all64))
	h = unfold(h, 32)
	back := new(big.Int).ModInverse(perByte, all64)
	for i := len(s) - 1; i >= 0; i-- {
		h = either(times(h, back), big.NewInt(int64(s[i])))
	}
	return either(h, firstWord).Uint64()
}

// unfold tells the number that, exclusive-or what is left of it over 2^power, is h. Each round sets power bits more right, from the top on.
func unfold(h *big.Int, power uint) *big.Int {
	n := h
	for known := power; known < 64; known += power {
		n = either(h, overTwoTo(n, power))
	}
	return n
}
