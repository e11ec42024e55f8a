package block_test

import (
	"bytes"
	"fmt"
	"math/rand"
	"slices"
	"testing"

	"plantlog/api"
	"plantlog/block"
)

// spoiltFile is a file, or what was one, with another piece in it, or with another byte, or torn off.
func spoiltFile(r *rand.Rand) []byte {
	pieces := somePieces(r, 1+r.Intn(8))
	if r.Intn(2) == 0 {
		i := r.Intn(len(pieces) + 1)
		pieces = slices.Insert(pieces, i, somePieces(r, 1)...)
	}
	file := fileOf(pieces...)
	switch r.Intn(4) {
	case 0:
		file[r.Intn(len(file))] = byte(r.Intn(256))
	case 1:
		file = file[:r.Intn(len(file))]
	case 2:
		i := r.Intn(len(file))
		file = slices.Insert(file, i, []byte{api.MagicByte, 0, 2}[:1+r.Intn(3)]...)
	}
	return file
}

func TestP34Recover(t *testing.T) {
	r := rand.New(rand.NewSource(20))
	whole, empty := 0, 0
	for range 1500 {
		file := spoiltFile(r)
		n := len(file)
		for _, e := block.Index(file[:n]); e != api.OK; _, e = block.Index(file[:n]) {
			n--
		}
		b, left, e := block.Recover(file)
		if e != api.OK || !bytes.Equal(b, file[:n]) || left != len(file)-n {
			t.Fatalf("%v: %v, %d, %d; not the first %d bytes", file, b, left, e, n)
		}
		if n == 0 {
			empty++
		}
		if n == len(file) {
			whole++
		}
	}
	if whole == 0 || empty == 0 {
		t.Errorf("%d are whole, %d are empty", whole, empty)
	}
}

func TestP34RecoverTornOff(t *testing.T) {
	r := rand.New(rand.NewSource(21))
	pieces := somePieces(r, 6)
	file := fileOf(pieces...)
	for n := range len(file) + 1 {
		want := 0
		for _, x := range indexOf(pieces) {
			if x.Offset+x.Long <= n {
				want = x.Offset + x.Long
			}
		}
		b, left, e := block.Recover(file[:n])
		same(t, fmt.Sprintf("%d bytes", n), []any{b, left, e}, []any{file[:want], n - want, api.OK})
	}
}

func TestP34RecoverOutOfOrder(t *testing.T) {
	one, two := piece{"t", from(5, 2), false}, piece{"u", from(0, 2), false}
	good := fileOf(one, two)
	b, left, e := block.Recover(append(fileOf(one, two), fileOf(one, two)...))
	same(t, "out of order", []any{b, left, e}, []any{good, len(good), api.OK})
}

// salvaged takes blocks as the document says it, with a list of those that were taken.
func salvaged(file []byte) ([]byte, []api.Block) {
	var found []byte
	var taken []api.Block
	for at := 0; at < len(file); {
		x, _, e := block.Decode(file, at)
		fits := e == api.OK
		for _, y := range taken {
			fits = fits && (x.Overflow || y.Overflow || x.Tag != y.Tag || y.Last < x.First)
		}
		if !fits {
			at++
			continue
		}
		taken = append(taken, x)
		found = append(found, file[at:at+x.Long]...)
		at += x.Long
	}
	return found, taken
}

func TestP34Salvage(t *testing.T) {
	r := rand.New(rand.NewSource(22))
	between := 0
	for range 3000 {
		file := spoiltFile(r)
		want, taken := salvaged(file)
		b, left, e := block.Salvage(file)
		if e != api.OK || !bytes.Equal(b, want) || left != len(file)-len(want) {
			t.Fatalf("%v: %v, %d, %d; not %v", file, b, left, e, want)
		}
		if _, e := block.Index(b); e != api.OK {
			t.Fatalf("%v: no file, error %d", b, e)
		}
		if left > 0 && len(taken) > 0 && taken[len(taken)-1].Offset+taken[len(taken)-1].Long == len(file) {
			between++
		}
	}
	if between < 100 {
		t.Errorf("%d have something to leave out before the end", between)
	}
}

// hidden returns a block, and a block of the tag "outer" that has its bytes in its samples.
func hidden(t *testing.T) (inner, outer []byte) {
	t.Helper()
	for value := 1; value < 5000; value++ {
		inner = written("h", series{good(0, value)}, true)
		sum := inner[len(inner)-2:]
		if (sum[0] == 0 || sum[0] == 2) && sum[1] > 0 && sum[1] < 128 && sum[1]%2 == 0 {
			// The bytes of the inner block are varints of numbers from the second to the third last one here.
			return inner, raw(0, "outer", 4, 7, -84, 1, 'h'/2, 1, 0, value, 0, int(sum[0])/2, int(sum[1])/2, 83, 2)
		}
	}
	t.Fatal("there is none")
	return nil, nil
}

func TestP34SalvageLooksIntoWhatItDoesNotTake(t *testing.T) {
	inner, outer := hidden(t)
	same(t, "is hidden", bytes.Contains(outer, inner), true)
	b, left, e := block.Salvage(outer)
	same(t, "the outer block", []any{b, left, e}, []any{outer, 0, api.OK})
	later := written("outer", from(api.DayLong, 1), false)
	b, left, e = block.Salvage(slices.Concat(later, outer, inner))
	same(t, "the inner block", []any{b, left, e}, []any{slices.Concat(later, inner, inner), len(outer) - len(inner), api.OK})
	outer[len(outer)-1]++
	b, left, e = block.Salvage(outer)
	same(t, "in a block with a wrong sum", []any{b, left, e}, []any{inner, len(outer) - len(inner), api.OK})
}

func TestP34SalvageOutOfOrder(t *testing.T) {
	one, two, late := piece{"t", from(5, 2), false}, piece{"t", from(6, 2), false}, piece{"t", from(7, 2), false}
	over, other := piece{"t", from(0, 9), true}, piece{"u", from(0, 9), false}
	b, left, e := block.Salvage(fileOf(one, over, two, other, late, one, over))
	same(t, "out of order", []any{b, left, e}, []any{fileOf(one, over, other, late, over), len(fileOf(two, one)), api.OK})
}

func TestP34ErrorsOfRepair(t *testing.T) {
	for _, n := range []int{api.MaxFile + 1, api.MaxFile + 1000} {
		for _, file := range [][]byte{make([]byte, n), filler(n)} {
			b, left, e := block.Recover(file)
			same(t, "Recover", []any{b, left, e}, []any{"[]", 0, api.ErrLarge})
			b, left, e = block.Salvage(file)
			same(t, "Salvage", []any{b, left, e}, []any{"[]", 0, api.ErrLarge})
		}
	}
	for _, file := range [][]byte{make([]byte, api.MaxFile), bytes.Repeat([]byte{api.MagicByte}, api.MaxFile), nil} {
		b, left, e := block.Recover(file)
		same(t, "Recover", []any{b, left, e}, []any{"[]", len(file), api.OK})
		b, left, e = block.Salvage(file)
		same(t, "Salvage", []any{b, left, e}, []any{"[]", len(file), api.OK})
	}
	file := filler(api.MaxFile)
	b, left, e := block.Recover(file)
	same(t, "Recover all", []any{bytes.Equal(b, file), left, e}, []any{true, 0, api.OK})
	b, left, e = block.Salvage(file)
	same(t, "Salvage all", []any{bytes.Equal(b, file), left, e}, []any{true, 0, api.OK})
}

func TestP34Compact(t *testing.T) {
	r := rand.New(rand.NewSource(23))
	for i := range 300 {
		pieces := somePieces(r, i%15)
		var want []piece
		for _, tag := range []string{"a", "b", "b-2"} {
			if l := samplesOf(pieces, tag, all()); len(l) > 0 {
				want = append(want, piece{tag, l, false})
			}
		}
		b, e := block.Compact(fileOf(pieces...))
		same(t, "compact", []any{b, e}, []any{fileOf(want...), api.OK})
	}
}

// TestP34CompactChangesNoQuery: with more samples than a block has, of several tags.
func TestP34CompactChangesNoQuery(t *testing.T) {
	r := rand.New(rand.NewSource(24))
	tags := []string{"b", "a", "c-1", "b-1"}
	for range 10 {
		var file []byte
		for range 20 {
			longer, e := block.Append(file, tags[r.Intn(4)], from(r.Intn(1000), r.Intn(200)))
			if e != api.OK {
				t.Fatalf("error %d", e)
			}
			file = longer
		}
		compact, e := block.Compact(file)
		same(t, "error", e, api.OK)
		for range 100 {
			w := api.Window{From: r.Intn(1200)}
			w.To = w.From + r.Intn(1200)
			tag := tags[r.Intn(4)]
			before, _ := block.Query(file, tag, w)
			after, e := block.Query(compact, tag, w)
			same(t, "query", []any{after, e}, []any{before, api.OK})
		}
		checkCompact(t, compact)
	}
}

// checkCompact tells whether the blocks are in the order of tags, full, and no overflow blocks.
func checkCompact(t *testing.T, compact []byte) {
	t.Helper()
	index, e := block.Index(compact)
	same(t, "error", e, api.OK)
	for i, x := range index {
		last := i+1 == len(index) || index[i+1].Tag != x.Tag
		if x.Overflow || !last && x.Count != api.BlockSamples || i > 0 && index[i-1].Tag > x.Tag {
			t.Errorf("block %d: %+v", i, x)
		}
	}
}

func TestP34CompactLarge(t *testing.T) {
	file := grown(t, nil, "t", 0, api.MaxSamples)
	file = grown(t, file, "t", 0, api.MaxSamples)
	b, e := block.Compact(file)
	same(t, "each twice", []any{len(b) < len(file), e}, []any{true, api.OK})
	file = grown(t, file, "t", api.MaxSamples, 1)
	b, e = block.Compact(file)
	same(t, "one more", []any{b, e}, []any{"[]", api.ErrLarge})
}

// tangled returns a file with tags whose samples have equal values in each of two blocks, but not if they are put in order.
func tangled(tags string, n int) []byte {
	var file []byte
	for _, tag := range tags {
		for at := 0; at < n; at += 2 * api.BlockSamples {
			var even, odd series
			for i := range api.BlockSamples {
				even = append(even, good(at+2*i, api.MaxValue))
				odd = append(odd, good(at+2*i+1, -api.MaxValue))
			}
			file = slices.Concat(file, written(string(tag), even, false), written(string(tag), odd, true))
		}
	}
	return file
}

func TestP34CompactFull(t *testing.T) {
	b, e := block.Compact(tangled("abcdef", 5000))
	same(t, "six tags", []any{len(b) > 180_000, e}, []any{true, api.OK})
	file := tangled("abcdefgh", 5000)
	same(t, "bytes", len(file) < api.MaxFile, true)
	b, e = block.Compact(file)
	same(t, "eight tags", []any{b, e}, []any{"[]", api.ErrFull})
	b, e = block.Compact(grown(t, file, "z", 0, api.MaxSamples+1))
	same(t, "large before full", []any{b, e}, []any{"[]", api.ErrLarge})
}

// TestP34CompactToTheLimit grows a file until its compact form has just too many bytes.
func TestP34CompactToTheLimit(t *testing.T) {
	base := tangled("abcdef", 5000)
	b, _ := block.Compact(base)
	rest := api.MaxFile - len(b)
	for extra, want := range map[int]api.Errno{-1: api.OK, 0: api.OK, 1: api.ErrFull} {
		b, e := block.Compact(slices.Concat(base, distinct(rest+extra)))
		same(t, fmt.Sprint("with ", extra), e, want)
		if want == api.OK {
			same(t, "bytes", len(b), api.MaxFile+extra)
		}
	}
}

// distinct returns a file with that many bytes and one block for each of its tags.
func distinct(n int) []byte {
	var file []byte
	for i := 0; n >= 40; i++ {
		file = append(file, written(fmt.Sprintf("x%010d", i), series{good(0, 0)}, false)...)
		n -= 20
	}
	return append(file, written("y"+longest[:n-10], series{good(0, 0)}, false)...)
}

func TestP34Size(t *testing.T) {
	for _, c := range []struct {
		tag  string
		l    series
		want int
	}{
		{"t", nil, 0},
		{"t", from(0, 1), 10},
		{longest, from(0, 1), 49},
		{"t", series{good(5, 3), good(9, 1)}, 13},
		{"t", from(0, 63), 10 + 62*3},
		{"t", from(0, 64), 10 + 63*3 + 1},
		{"t", from(0, api.BlockSamples), 10 + 99*3 + 1},
		// Two blocks of fewer than 64 samples have a byte less than a full one and another.
		{"t", from(0, api.BlockSamples+1), 10 + 10 + 99*3},
	} {
		n, e := block.Size(c.tag, c.l)
		same(t, fmt.Sprintf("%d samples", len(c.l)), []any{n, e}, []any{c.want, api.OK})
	}
}

// divided returns the fewest bytes over all ways to divide a few samples.
func divided(tag string, l series) int {
	fewest := 0
	for n := 1; n <= min(len(l), api.BlockSamples); n++ {
		bytes := len(written(tag, l[:n], false)) + divided(tag, l[n:])
		if n == 1 || bytes < fewest {
			fewest = bytes
		}
	}
	return fewest
}

func TestP34SizeOfAllDivisions(t *testing.T) {
	r := rand.New(rand.NewSource(25))
	for i := range 60 {
		l := someSeries(r, i%10)
		n, e := block.Size("t-1", l)
		same(t, "size", []any{n, e}, []any{divided("t-1", l), api.OK})
	}
}

// TestP34SizeOfMany compares with the sizes of all blocks that there can be.
func TestP34SizeOfMany(t *testing.T) {
	r := rand.New(rand.NewSource(26))
	better := 0
	for range 6 {
		l := someSeries(r, 101+r.Intn(120))
		fewest := make([]int, len(l)+1)
		for first := len(l) - 1; first >= 0; first-- {
			for n := 1; n <= min(len(l)-first, api.BlockSamples); n++ {
				bytes := len(written("t", l[first:first+n], false)) + fewest[first+n]
				if n == 1 || bytes < fewest[first] {
					fewest[first] = bytes
				}
			}
		}
		n, e := block.Size("t", l)
		same(t, "size", []any{n, e}, []any{fewest[0], api.OK})
		file, _ := block.Append(nil, "t", l)
		if n < len(file) {
			better++
		}
	}
	if better == 0 {
		t.Error("full blocks are always the best ones")
	}
}

func TestP34SizeErrors(t *testing.T) {
	for _, c := range []struct {
		tag  string
		l    series
		want api.Errno
	}{
		{"", nil, api.ErrName},
		{"T", series{good(-1, 0)}, api.ErrName},
		{"t", series{good(-1, 0)}, api.ErrArg},
		{"t", series{good(1, 0), good(0, 0)}, api.ErrOrder},
		{"t", from(0, api.MaxSamples+1), api.ErrLarge},
		{"t", from(0, api.MaxSamples), api.OK},
	} {
		n, e := block.Size(c.tag, c.l)
		same(t, c.tag, []any{n > 0, e}, []any{c.want == api.OK, c.want})
	}
}
