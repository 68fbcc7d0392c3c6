// Package gf is layer 1: numbers of eight bits: see shared/doc/01-gf.md.
package gf

import "stowage/api"

const (
	generator = 2
	// order is how many numbers there are but 0: any of them to this power is 1.
	order = 255
	// modulus is 285 without its x^8, which the shift of a byte drops by itself.
	modulus = 285 & 255
)

// Add adds.
func Add(a, b byte) byte { return a ^ b }

// Mul multiplies.
func Mul(a, b byte) byte {
	var product byte
	for range 8 {
		product ^= a & spread(b&1)
		a = double(a)
		b >>= 1
	}
	return product
}

// double multiplies by x.
func double(a byte) byte { return a<<1 ^ modulus&spread(a>>7) }

// spread makes a mask of all bits out of a single one, so that no product needs a branch.
func spread(bit byte) byte { return -bit }

// Inv tells the inverse.
func Inv(a byte) (byte, api.Errno) { return Pow(a, -1) }

// Div divides.
func Div(a, b byte) (byte, api.Errno) {
	inverse, err := Inv(b)
	if err != api.OK {
		return 0, err
	}
	return Mul(a, inverse), api.OK
}

// Pow tells a power.
func Pow(a byte, n int) (byte, api.Errno) {
	if a != 0 {
		return raise(a, turn(n)), api.OK
	}
	if n < 0 {
		return 0, api.ErrRange
	}
	if n == 0 {
		return 1, api.OK
	}
	return 0, api.OK
}

// turn tells the exponent of 0 to 254 that makes the same power of every number but 0. The rest is taken ahead of
// any change of sign, as the least int has none above 0.
func turn(n int) int {
	n %= order
	if n < 0 {
		n += order
	}
	return n
}

// raise squares and multiplies; n is not below 0.
func raise(a byte, n int) byte {
	power := byte(1)
	for ; n > 0; n >>= 1 {
		if n&1 == 1 {
			power = Mul(power, a)
		}
		a = Mul(a, a)
	}
	return power
}

// Log tells the exponent to the generator.
func Log(a byte) (int, api.Errno) {
	power := byte(1)
	for n := range order {
		if power == a {
			return n, api.OK
		}
		power = Mul(power, generator)
	}
	// Only 0 is no power of the generator.
	return 0, api.ErrRange
}

// Axpy adds a multiple of a list to another one.
func Axpy(y, x []byte, a byte) ([]byte, api.Errno) {
	if err := match(y, x); err != api.OK {
		return nil, err
	}
	sums := make([]byte, len(y))
	x = x[:len(y)]
	for i, n := range y {
		sums[i] = Add(n, Mul(a, x[i]))
	}
	return sums, api.OK
}

// Dot tells the products at each place, added.
func Dot(x, y []byte) (byte, api.Errno) {
	if err := match(x, y); err != api.OK {
		return 0, err
	}
	var sum byte
	y = y[:len(x)]
	for i, n := range x {
		sum = Add(sum, Mul(n, y[i]))
	}
	return sum, api.OK
}

// match tells whether two lists can be gone through together.
func match(x, y []byte) api.Errno {
	if len(x) > api.MaxData || len(y) > api.MaxData {
		return api.ErrLong
	}
	if len(x) != len(y) {
		return api.ErrArg
	}
	return api.OK
}
