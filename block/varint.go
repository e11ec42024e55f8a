package block

import (
	"math/bits"

	"plantlog/api"
	"plantlog/basic"
)

const (
	mostVarint = 1_000_000_000_000 // a varint is from -mostVarint to it
	varintLong = 6                 // bytes of the longest varint
)

// Varint encodes a number.
func Varint(n int) ([]byte, api.Errno) {
	if !isVarint(n) {
		return nil, api.ErrArg
	}
	return appendVarint(nil, n), api.OK
}

func isVarint(n int) bool { return basic.Within(n, -mostVarint, mostVarint) }

func zigzag(n int) int {
	if n < 0 {
		return -2*n - 1
	}
	return 2 * n
}

func unzigzag(z int) int {
	if z%2 == 1 {
		return -(z / 2) - 1
	}
	return z / 2
}

func appendVarint(b []byte, n int) []byte {
	z := zigzag(n)
	for z >= 128 {
		b = append(b, byte(z%128+128))
		z /= 128
	}
	return append(b, byte(z))
}

// varintBytes returns how many bytes the varint of a number has.
func varintBytes(n int) int {
	return max(1, (bits.Len(uint(zigzag(n)))+6)/7)
}

// Unvarint decodes the number at an offset.
func Unvarint(b []byte, at int) (int, int, api.Errno) {
	if !basic.Within(at, 0, len(b)) {
		return 0, 0, api.ErrArg
	}
	z := 0
	// What goes on after the longest varint has needless bytes or is out of range, if it ends at all.
	for i, c := range b[at:min(at+varintLong, len(b))] {
		z |= int(c%128) << (7 * i)
		if c >= 128 {
			continue
		}
		n, needless := unzigzag(z), c == 0 && i > 0
		if needless || !isVarint(n) {
			break
		}
		return n, at + i + 1, api.OK
	}
	return 0, 0, api.ErrSyntax
}

// Checksum of bytes.
func Checksum(b []byte) int {
	sum := 1
	for _, c := range b {
		sum = (sum*31 + int(c) + 1) % 65_521
	}
	return sum
}
