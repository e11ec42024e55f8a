package block_test

import (
	"bytes"
	"fmt"
	"math"
	"math/rand"
	"slices"
	"strings"
	"testing"

	"plantlog/api"
	"plantlog/block"
)

// same compares as printed, so that an empty and a nil list are the same.
func same(t *testing.T, what string, got, want any) {
	t.Helper()
	if g, w := fmt.Sprintf("%+v", got), fmt.Sprintf("%+v", want); g != w {
		t.Errorf("%s: got %.300s, want %.300s", what, g, w)
	}
}

type series = []api.Sample

func good(at, value int) api.Sample { return api.Sample{At: at, Value: value, Quality: api.Good} }

func uncertain(at, value int) api.Sample {
	return api.Sample{At: at, Value: value, Quality: api.Uncertain}
}

func bad(at int) api.Sample { return api.Sample{At: at, Quality: api.Bad} }

// from returns a valid series of n samples, one each millisecond from a moment on.
func from(at, n int) series {
	l := make(series, n)
	for i := range l {
		l[i] = good(at+i, i%7)
	}
	return l
}

// someSeries returns a valid series of n samples with moments and values of many lengths.
func someSeries(r *rand.Rand, n int) series {
	l := make(series, n)
	at := r.Intn(1 << r.Intn(30))
	for i := range l {
		l[i] = api.Sample{At: at, Quality: r.Intn(3)}
		if l[i].Quality != api.Bad {
			l[i].Value = r.Intn(1 << r.Intn(20))
			l[i].Value *= 1 - 2*r.Intn(2)
		}
		at += 1 + r.Intn(1<<r.Intn(25))
	}
	return l
}

// raw writes a block of whatever numbers, with a correct checksum. The list has three numbers for each sample.
func raw(kind byte, tag string, count int, list ...int) []byte {
	b := append([]byte{api.MagicByte, kind}, varintOf(len(tag))...)
	b = append(append(b, tag...), varintOf(count)...)
	for _, n := range list {
		b = append(b, varintOf(n)...)
	}
	return summed(b)
}

// summed appends the checksum.
func summed(b []byte) []byte {
	sum := block.Checksum(b)
	return append(b, byte(sum>>8), byte(sum))
}

// written writes a block as the document says it.
func written(tag string, l series, overflow bool) []byte {
	kind := byte(0)
	if overflow {
		kind = 1
	}
	var list []int
	for i, x := range l {
		if i == 0 {
			list = append(list, x.At, x.Value, x.Quality)
			continue
		}
		list = append(list, x.At-l[i-1].At, x.Value-l[i-1].Value, x.Quality)
	}
	return raw(kind, tag, len(l), list...)
}

func encode(t *testing.T, tag string, l series, overflow bool) []byte {
	t.Helper()
	b, e := block.Encode(tag, l, overflow)
	if e != api.OK {
		t.Fatalf("Encode: error %d", e)
	}
	return b
}

const longest = "a234567890123456789012345678901234567890"

func TestP32Encode(t *testing.T) {
	l := series{good(300, 64), uncertain(301, -1), bad(400), good(401, 0)}
	body := []byte{api.MagicByte, 0, 4, 'a', '-', 8, 216, 4, 128, 1, 0, 2, 129, 1, 2, 198, 1, 2, 4, 2, 0, 0}
	same(t, "a block", encode(t, "a-", l, false), summed(slices.Clone(body)))
	body[1] = 1
	same(t, "an overflow block", encode(t, "a-", l, true), summed(body))
	b := encode(t, "t", series{good(0, 0)}, false)
	same(t, "the least block", b, []byte{api.MagicByte, 0, 2, 't', 2, 0, 0, 0, b[8], b[9]})
	sum := 1
	for _, c := range b[:8] {
		sum = (sum*31 + int(c) + 1) % 65_521
	}
	same(t, "the high byte first", int(b[8])*256+int(b[9]), sum)
}

func TestP32EncodeAndDecode(t *testing.T) {
	r := rand.New(rand.NewSource(3))
	for i := range 600 {
		l := someSeries(r, 1+i%api.BlockSamples)
		tag, overflow := longest[:1+r.Intn(api.MaxName)], r.Intn(2) == 0
		b := encode(t, tag, l, overflow)
		if !bytes.Equal(b, written(tag, l, overflow)) {
			t.Fatalf("%v, %q: %v", l, tag, b)
		}
		at := r.Intn(20)
		all := slices.Concat(bytes.Repeat([]byte{api.MagicByte}, at), b, b[:r.Intn(len(b))])
		x, k, e := block.Decode(all, at)
		want := api.Block{Offset: at, Long: len(b), Tag: tag, First: l[0].At, Last: l[len(l)-1].At, Count: len(l), Overflow: overflow}
		same(t, "decoded", []any{x, k, e}, []any{want, l, api.OK})
	}
}

func TestP32Bounds(t *testing.T) {
	for name, l := range map[string]series{
		"one sample":           {good(0, 0)},
		"the last moment":      {bad(api.End - 1)},
		"all moments":          {good(0, -api.MaxValue), uncertain(api.End-1, api.MaxValue)},
		"greatest differences": {good(0, api.MaxValue), good(1, -api.MaxValue), good(2, api.MaxValue)},
		"a full block":         from(api.End-api.BlockSamples, api.BlockSamples),
	} {
		for _, tag := range []string{"a", longest, strings.Repeat("z", 31), strings.Repeat("z", 32)} {
			b := encode(t, tag, l, false)
			x, k, e := block.Decode(b, 0)
			same(t, name, []any{x.Tag, x.First, x.Last, x.Count, x.Long, k, e}, []any{tag, l[0].At, l[len(l)-1].At, len(l), len(b), l, api.OK})
		}
	}
}

func TestP32EncodeErrors(t *testing.T) {
	for _, c := range []struct {
		what string
		tag  string
		l    series
		want api.Errno
	}{
		{"no tag", "", from(0, 1), api.ErrName},
		{"no key", "A", from(0, 1), api.ErrName},
		{"a long tag", longest + "b", from(0, 1), api.ErrName},
		{"tag before series", "9", series{good(-1, 0)}, api.ErrName},
		{"tag before no samples", "9", nil, api.ErrName},
		{"no moment", "t", series{good(-1, 0)}, api.ErrArg},
		{"no quality", "t", series{{Quality: 3}}, api.ErrKind},
		{"a bad value", "t", series{{Value: 1, Quality: api.Bad}}, api.ErrForm},
		{"out of order", "t", series{good(1, 0), good(1, 0)}, api.ErrOrder},
		{"no samples", "t", nil, api.ErrNone},
		{"too many", "t", from(0, api.BlockSamples+1), api.ErrFull},
		{"series before too many", "t", append(from(0, api.BlockSamples), good(0, 0)), api.ErrOrder},
		{"more than a series", "t", from(0, api.MaxSamples+1), api.ErrLarge},
	} {
		for _, overflow := range []bool{false, true} {
			b, e := block.Encode(c.tag, c.l, overflow)
			same(t, c.what, []any{b, e}, []any{"[]", c.want})
		}
	}
}

func TestP32DecodeErrors(t *testing.T) {
	valid := raw(0, "t", 1, 5, 3, 0)
	spoilt := func(at int, c byte) []byte {
		b := slices.Clone(valid)
		b[at] = c
		return b
	}
	cut := func(n int) []byte { return slices.Clone(valid[:n]) }
	for _, c := range []struct {
		what string
		b    []byte
		at   int
		want api.Errno
	}{
		{"too many bytes", slices.Concat(valid, make([]byte, api.MaxFile+1-len(valid))), 0, api.ErrLarge},
		{"too many bytes before offset", make([]byte, api.MaxFile+1), -1, api.ErrLarge},
		{"as many bytes as can be", slices.Concat(valid, make([]byte, api.MaxFile-len(valid))), 0, api.OK},
		{"offset below 0", valid, -1, api.ErrArg},
		{"offset after the end", valid, len(valid) + 1, api.ErrArg},
		{"least offset", valid, math.MinInt, api.ErrArg},
		{"greatest offset", valid, math.MaxInt, api.ErrArg},
		{"offset at the end", valid, len(valid), api.ErrNone},
		{"no bytes", nil, 0, api.ErrNone},
		{"not the first byte", valid, 1, api.ErrForm},
		{"another first byte", spoilt(0, api.MagicByte-1), 0, api.ErrForm},
		{"another first byte alone", []byte{0}, 0, api.ErrForm},
		{"kind 2", raw(2, "t", 1, 5, 3, 0), 0, api.ErrSyntax},
		{"kind 255", raw(255, "t", 1, 5, 3, 0), 0, api.ErrSyntax},
		{"kind before sum", spoilt(1, 2), 0, api.ErrSyntax},
		{"no tag", raw(0, "", 1, 5, 3, 0), 0, api.ErrSyntax},
		{"a long tag", raw(0, longest+"b", 1, 5, 3, 0), 0, api.ErrSyntax},
		{"a very long tag", raw(0, strings.Repeat("t", 1000), 1, 5, 3, 0), 0, api.ErrSyntax},
		{"a negative length", summed([]byte{api.MagicByte, 0, 1, 2, 0, 0, 0}), 0, api.ErrSyntax},
		{"a negative length 2", summed([]byte{api.MagicByte, 0, 3, 't', 2, 0, 0, 0}), 0, api.ErrSyntax},
		{"length with a needless byte", summed([]byte{api.MagicByte, 0, 130, 0, 't', 2, 0, 0, 0}), 0, api.ErrSyntax},
		{"tag to the end", []byte{api.MagicByte, 0, 10, 't', 't', 't', 't'}, 0, api.ErrSyntax},
		{"no samples", raw(0, "t", 0), 0, api.ErrSyntax},
		{"fewer than none", raw(0, "t", -1), 0, api.ErrSyntax},
		{"as many as can be", raw(0, "t", 100, slices.Repeat([]int{1, 0, 0}, 100)...), 0, api.OK},
		{"too many", raw(0, "t", 101, slices.Repeat([]int{1, 0, 0}, 101)...), 0, api.ErrSyntax},
		{"very many", raw(0, "t", most, slices.Repeat([]int{1, 0, 0}, 101)...), 0, api.ErrSyntax},
		{"count with a needless byte", summed([]byte{api.MagicByte, 0, 2, 't', 130, 0, 0, 0, 0}), 0, api.ErrSyntax},
		{"moment with a needless byte", summed([]byte{api.MagicByte, 0, 2, 't', 2, 130, 0, 0, 0}), 0, api.ErrSyntax},
		{"value with a needless byte", summed([]byte{api.MagicByte, 0, 2, 't', 2, 0, 130, 0, 0}), 0, api.ErrSyntax},
		{"quality with a needless byte", summed([]byte{api.MagicByte, 0, 2, 't', 2, 0, 0, 130, 0}), 0, api.ErrSyntax},
		{"a number that is no varint", raw(0, "t", 1, most+1, 0, 0), 0, api.ErrSyntax},
		{"syntax before name", raw(0, "T", 1, most+1, 0, 0), 0, api.ErrSyntax},
		{"syntax before series", raw(0, "t", 2, -1, 0, 0, most+1, 0, 0), 0, api.ErrSyntax},
		{"wrong sum", spoilt(len(valid)-1, valid[len(valid)-1]+1), 0, api.ErrSum},
		{"wrong high byte", spoilt(len(valid)-2, valid[len(valid)-2]+1), 0, api.ErrSum},
		{"another value", spoilt(6, 8), 0, api.ErrSum},
		{"sum before name", spoilt(3, 'T'), 0, api.ErrSum},
		{"sum before series", spoilt(5, 1), 0, api.ErrSum},
		{"no key", raw(0, "T", 1, 5, 3, 0), 0, api.ErrName},
		{"no key in UTF-8", raw(0, "t\xff", 1, 5, 3, 0), 0, api.ErrName},
		{"name before series", raw(1, "1", 1, -5, 3, 0), 0, api.ErrName},
		{"moment below 0", raw(0, "t", 1, -1, 3, 0), 0, api.ErrArg},
		{"moment at the end", raw(1, "t", 1, api.End, 3, 0), 0, api.ErrArg},
		{"moment far away", raw(0, "t", 100, slices.Repeat([]int{most, most, 0}, 100)...), 0, api.ErrArg},
		{"quality below 0", raw(0, "t", 1, 1, 3, -1), 0, api.ErrKind},
		{"quality 3", raw(0, "t", 1, 1, 3, 3), 0, api.ErrKind},
		{"too great a value", raw(0, "t", 1, 1, api.MaxValue+1, 0), 0, api.ErrArg},
		{"too great a value later", raw(0, "t", 2, 1, api.MaxValue, 0, 1, 1, 0), 0, api.ErrArg},
		{"bad with a value", raw(0, "t", 1, 1, 3, 2), 0, api.ErrForm},
		{"not later", raw(0, "t", 2, 1, 3, 0, 0, 0, 0), 0, api.ErrOrder},
		{"earlier", raw(0, "t", 2, 1, 3, 0, -1, 0, 0), 0, api.ErrOrder},
		{"cut in the sum", cut(len(valid) - 1), 0, api.ErrSyntax},
		{"cut before the sum", cut(len(valid) - 2), 0, api.ErrSyntax},
		{"the magic byte alone", cut(1), 0, api.ErrSyntax},
	} {
		x, l, e := block.Decode(c.b, c.at)
		same(t, c.what, e, c.want)
		if e != api.OK {
			same(t, c.what, []any{x, l}, []any{api.Block{}, "[]"})
		}
	}
}

func TestP32TornOffBlocks(t *testing.T) {
	b := encode(t, "tag", someSeries(rand.New(rand.NewSource(4)), 70), true)
	for n := 1; n < len(b); n++ {
		_, _, e := block.Decode(b[:n], 0)
		same(t, fmt.Sprintf("%d bytes", n), e, api.ErrSyntax)
	}
}

// TestP32DecodeAcceptsNothingElse: whatever bytes are read as a block are those that Encode returns for what was read.
func TestP32DecodeAcceptsNothingElse(t *testing.T) {
	r := rand.New(rand.NewSource(5))
	accepted := 0
	for range 30_000 {
		b := written("tag", someSeries(r, 1+r.Intn(4)), false)
		b = b[:len(b)-2]
		for range 1 + r.Intn(2) {
			b[1+r.Intn(len(b)-1)] = byte(r.Intn(256) & r.Intn(256))
		}
		b = summed(b)
		x, l, e := block.Decode(b, 0)
		if e != api.OK {
			continue
		}
		accepted++
		if again, e := block.Encode(x.Tag, l, x.Overflow); e != api.OK || !bytes.Equal(again, b[:x.Long]) {
			t.Fatalf("%v is read as %v, %v, which is written as %v, %d", b, x, l, again, e)
		}
	}
	if accepted < 1000 {
		t.Errorf("%d blocks are accepted", accepted)
	}
}
