package block_test

import (
	"bytes"
	"math"
	"math/big"
	"math/rand"
	"slices"
	"testing"

	"plantlog/api"
	"plantlog/block"
)

const most = 1_000_000_000_000

// varintOf writes a varint as the document says it, with the zigzag form in groups of seven bits.
func varintOf(n int) []byte {
	zigzag := 2 * n
	if n < 0 {
		zigzag = -2*n - 1
	}
	b := []byte{byte(zigzag & 127)}
	for zigzag >>= 7; zigzag > 0; zigzag >>= 7 {
		b[len(b)-1] |= 128
		b = append(b, byte(zigzag&127))
	}
	return b
}

// someNumbers are all small numbers, those next to the powers of two and the bounds, and others.
func someNumbers() []int {
	list := []int{most - 1, most, 1 - most, -most}
	for n := range 20_000 {
		list = append(list, n, -n)
	}
	for i := range 40 {
		for n := 1<<i - 2; n <= 1<<i+2 && n <= most; n++ {
			list = append(list, n, -n)
		}
	}
	r := rand.New(rand.NewSource(1))
	for range 1000 {
		list = append(list, r.Intn(2*most+1)-most)
	}
	return list
}

func TestP31Varint(t *testing.T) {
	for n, want := range map[int][]byte{
		0: {0}, -1: {1}, 1: {2}, -2: {3}, 63: {126}, -64: {127}, 64: {128, 1}, -65: {129, 1},
		8191: {254, 127}, -8192: {255, 127}, 8192: {128, 128, 1},
		most: {128, 192, 168, 202, 154, 58}, -most: {255, 191, 168, 202, 154, 58},
	} {
		b, e := block.Varint(n)
		same(t, "varint", []any{n, b, e}, []any{n, want, api.OK})
	}
	for _, n := range someNumbers() {
		b, e := block.Varint(n)
		if e != api.OK || !bytes.Equal(b, varintOf(n)) {
			t.Fatalf("Varint(%d): %v, %d, not %v", n, b, e, varintOf(n))
		}
	}
}

func TestP31VarintErrors(t *testing.T) {
	for _, n := range []int{most + 1, -most - 1, 2 * most, math.MaxInt, math.MinInt, math.MaxInt / 2, math.MinInt / 2, 1 << 62} {
		b, e := block.Varint(n)
		same(t, "out of range", []any{n, b, e}, []any{n, "[]", api.ErrArg})
	}
}

func TestP31UnvarintReadsWhatVarintWrites(t *testing.T) {
	for _, n := range someNumbers() {
		b := varintOf(n)
		for _, around := range [][2][]byte{{nil, nil}, {{128, 7}, {5}}, {{0}, {128}}, {{200}, {255, 255}}} {
			all := slices.Concat(around[0], b, around[1])
			k, next, e := block.Unvarint(all, len(around[0]))
			if e != api.OK || k != n || next != len(around[0])+len(b) {
				t.Fatalf("Unvarint(%v, %d): %d, %d, %d", all, len(around[0]), k, next, e)
			}
		}
	}
}

// TestP31UnvarintAcceptsNothingElse tries all strings of up to two bytes, and many of three.
func TestP31UnvarintAcceptsNothingElse(t *testing.T) {
	for n := range 1 << 16 {
		low, high := byte(n), byte(n>>8)
		list := [][]byte{{low, high}, {128, low, high}, {255, low, high}}
		if high == 0 {
			list = append(list, []byte{low})
		}
		for _, b := range list {
			k, next, e := block.Unvarint(b, 0)
			whole := firstVarint(b)
			if e == api.OK && bytes.Equal(varintOf(k), b[:next]) && bytes.Equal(whole, b[:next]) {
				continue
			}
			if e != api.ErrSyntax || whole != nil || k != 0 || next != 0 {
				t.Fatalf("%v: %d, %d, %d; it begins with %v", b, k, next, e, whole)
			}
		}
	}
}

// firstVarint returns the varint that short bytes begin with.
func firstVarint(b []byte) []byte {
	end := slices.IndexFunc(b, func(c byte) bool { return c < 128 }) + 1
	if end == 0 || end > 1 && b[end-1] == 0 {
		return nil
	}
	return b[:end]
}

func TestP31UnvarintErrors(t *testing.T) {
	six := func(n int) []byte { // the six groups of a zigzag form
		var b []byte
		for i := range 6 {
			b = append(b, byte(n>>(7*i))&127|128)
		}
		b[5] &= 127
		return b
	}
	for _, c := range []struct {
		what string
		b    []byte
		at   int
		want api.Errno
	}{
		{"offset below 0", []byte{0}, -1, api.ErrArg},
		{"offset after the end", []byte{0}, 2, api.ErrArg},
		{"offset after no bytes", nil, 1, api.ErrArg},
		{"least offset", []byte{0}, math.MinInt, api.ErrArg},
		{"greatest offset", []byte{0}, math.MaxInt, api.ErrArg},
		{"no bytes", nil, 0, api.ErrSyntax},
		{"offset at the end", []byte{0}, 1, api.ErrSyntax},
		{"torn off", []byte{128}, 0, api.ErrSyntax},
		{"torn off later", []byte{255, 255, 255}, 0, api.ErrSyntax},
		{"needless byte", []byte{128, 0}, 0, api.ErrSyntax},
		{"needless byte after 1", []byte{129, 0}, 0, api.ErrSyntax},
		{"needless bytes", []byte{129, 128, 0}, 0, api.ErrSyntax},
		{"needless byte after six", []byte{128, 192, 168, 202, 154, 186, 0}, 0, api.ErrSyntax},
		{"the greatest number", six(2 * most), 0, api.OK},
		{"the least number", six(2*most - 1), 0, api.OK},
		{"too great", six(2*most + 2), 0, api.ErrSyntax},
		{"too small", six(2*most + 1), 0, api.ErrSyntax},
		{"six full bytes", []byte{255, 255, 255, 255, 255, 127}, 0, api.ErrSyntax},
		{"seven bytes", []byte{128, 128, 128, 128, 128, 128, 1}, 0, api.ErrSyntax},
		{"ten bytes", []byte{128, 128, 128, 128, 128, 128, 128, 128, 128, 1}, 0, api.ErrSyntax},
		{"more bits than an int", []byte{130, 128, 128, 128, 128, 128, 128, 128, 128, 128, 128, 1}, 0, api.ErrSyntax},
		{"many bytes", bytes.Repeat([]byte{128}, api.MaxFile), 0, api.ErrSyntax},
	} {
		_, _, e := block.Unvarint(c.b, c.at)
		same(t, c.what, e, c.want)
	}
}

func TestP31Checksum(t *testing.T) {
	same(t, "no bytes", block.Checksum(nil), 1)
	same(t, "the byte 0", block.Checksum([]byte{0}), 32)
	same(t, "two bytes", block.Checksum([]byte{0, 255}), 32*31+256)
	same(t, "three bytes", block.Checksum([]byte{255, 255, 255}), 21_915)
	// 31 to the power of the number of bytes, and for each byte its share.
	r := rand.New(rand.NewSource(2))
	modulus := big.NewInt(65_521)
	for range 200 {
		b := make([]byte, r.Intn(50))
		r.Read(b)
		sum, power := new(big.Int), big.NewInt(1)
		for _, c := range slices.Backward(b) {
			sum.Add(sum, new(big.Int).Mul(power, big.NewInt(int64(c)+1)))
			power.Mul(power, big.NewInt(31))
		}
		sum.Add(sum, power).Mod(sum, modulus)
		same(t, "checksum", block.Checksum(b), sum.Int64())
	}
	same(t, "many bytes", block.Checksum(bytes.Repeat([]byte{255}, 200_000)) < 65_521, true)
}
