package crc

import "pedigree/api"

// A register is a polynomial over bits: bit 31 belongs to 1, bit 30 to X, bit 0 to X^31. A bit 0 that it passes through multiplies it by X, modulo the checksum's polynomial.
const (
	one     = 1 << 31
	byteOf0 = one >> 8   // X^8: what a byte 0 multiplies by
	modulus = 0xedb88320 // without its X^32
)

// Join is the checksum of bytes with the checksum x, followed by n bytes with the checksum y.
func Join(x, y uint32, n int) (uint32, api.Errno) {
	if n < 0 {
		return 0, api.ErrArg
	}
	return times(x, power(byteOf0, n)) ^ y, api.OK
}

// power is p to the n-th. It squares: n steps, one a byte, could be more than anyone can wait for.
func power(p uint32, n int) uint32 {
	product := uint32(one)
	for ; n > 0; n >>= 1 {
		if n&1 == 1 {
			product = times(product, p)
		}
		p = times(p, p)
	}
	return product
}

// times is the product of two polynomials.
func times(p, q uint32) uint32 {
	var product uint32
	for ; p != 0; p <<= 1 {
		if p&one != 0 {
			product ^= q
		}
		q = timesX(q)
	}
	return product
}

func timesX(p uint32) uint32 {
	if p&1 == 1 {
		return p>>1 ^ modulus
	}
	return p >> 1
}
