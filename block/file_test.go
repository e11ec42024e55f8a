package block_test

import (
	"bytes"
	"fmt"
	"math"
	"math/rand"
	"slices"
	"testing"

	"plantlog/api"
	"plantlog/block"
)

func all() api.Window { return api.Window{From: 0, To: api.End} }

// piece is a block of a file.
type piece struct {
	tag      string
	l        series
	overflow bool
}

func fileOf(pieces ...piece) []byte {
	var file []byte
	for _, p := range pieces {
		file = append(file, written(p.tag, p.l, p.overflow)...)
	}
	return file
}

// somePieces are the blocks of a file with times below about 60.
func somePieces(r *rand.Rand, n int) []piece {
	var pieces []piece
	ends := map[string]int{}
	for range n {
		p := piece{tag: []string{"a", "b", "b-2"}[r.Intn(3)], overflow: r.Intn(2) == 0}
		at := r.Intn(40)
		if !p.overflow {
			at = ends[p.tag] + r.Intn(5)
		}
		for range 1 + r.Intn(4) {
			p.l = append(p.l, api.Sample{At: at, Value: r.Intn(9) - 4})
			at += 1 + r.Intn(5)
		}
		if !p.overflow {
			ends[p.tag] = at
		}
		pieces = append(pieces, p)
	}
	return pieces
}

// indexOf returns what an index says of blocks.
func indexOf(pieces []piece) []api.Block {
	var index []api.Block
	at := 0
	for _, p := range pieces {
		long := len(written(p.tag, p.l, p.overflow))
		index = append(index, api.Block{Offset: at, Long: long, Tag: p.tag, First: p.l[0].At, Last: p.l[len(p.l)-1].At, Count: len(p.l), Overflow: p.overflow})
		at += long
	}
	return index
}

// samplesOf returns the samples of a tag in a window, moment after moment.
func samplesOf(pieces []piece, tag string, w api.Window) series {
	latest := map[int]api.Sample{}
	for _, p := range pieces {
		for _, x := range p.l {
			if p.tag == tag && w.From <= x.At && x.At < w.To {
				latest[x.At] = x
			}
		}
	}
	var l series
	for _, x := range latest {
		l = append(l, x)
	}
	slices.SortFunc(l, func(x, y api.Sample) int { return x.At - y.At })
	return l
}

// filler returns a file with that many bytes, at least 10, without blocks of the tags of other tests.
func filler(n int) []byte {
	var file []byte
	for ; n >= 40; n -= 20 {
		file = append(file, written(longest[:11], series{good(0, 0)}, true)...)
	}
	return append(file, written(longest[:n-9], series{good(0, 0)}, true)...)
}

func TestFiller(t *testing.T) {
	for _, n := range []int{10, 39, 40, 41, api.MaxFile} {
		_, e := block.Index(filler(n))
		same(t, "filler", []any{len(filler(n)), e}, []any{n, api.OK})
	}
}

// withFile calls all functions that return an error of the file.
func withFile(file []byte, tag string, l series, w api.Window) map[string]result {
	return map[string]result{
		"Append":  of(block.Append(file, tag, l)),
		"Index":   of(block.Index(file)),
		"Find":    of(block.Find(file, tag, w)),
		"Query":   of(block.Query(file, tag, w)),
		"Tags":    of(block.Tags(file)),
		"Compact": of(block.Compact(file)),
	}
}

func TestP33Index(t *testing.T) {
	l, e := block.Index(nil)
	same(t, "no blocks", []any{l, e}, []any{"[]", api.OK})
	r := rand.New(rand.NewSource(10))
	for i := range 300 {
		pieces := somePieces(r, i%12)
		l, e := block.Index(fileOf(pieces...))
		same(t, "index", []any{l, e}, []any{indexOf(pieces), api.OK})
	}
}

func TestP33ErrorsOfFiles(t *testing.T) {
	a, over := from(5, 5), true // until 9
	first := piece{"t", a, false}
	wrong := written("t", from(20, 2), false)
	wrong[len(wrong)-1]++
	for _, c := range []struct {
		what string
		file []byte
		want api.Errno
	}{
		{"no blocks", nil, api.OK},
		{"one block", fileOf(first), api.OK},
		{"just later", fileOf(first, piece{"t", from(10, 1), false}), api.OK},
		{"the same moment", fileOf(first, piece{"t", from(9, 2), false}), api.ErrOrder},
		{"earlier", fileOf(first, piece{"t", from(0, 1), false}), api.ErrOrder},
		{"the same block", fileOf(first, first), api.ErrOrder},
		{"another tag", fileOf(first, piece{"u", from(5, 1), false}), api.OK},
		{"another tag in between", fileOf(first, piece{"u", from(50, 1), false}, piece{"t", from(9, 1), false}), api.ErrOrder},
		{"a later one of another tag in between", fileOf(first, piece{"u", from(50, 1), false}, piece{"t", from(10, 1), false}), api.OK},
		{"at 0 and at 0", fileOf(piece{"t", from(0, 1), false}, piece{"t", from(0, 1), false}), api.ErrOrder},
		{"overflow is earlier", fileOf(first, piece{"t", from(0, 3), over}, piece{"t", from(0, 3), over}), api.OK},
		{"after overflow", fileOf(piece{"t", from(50, 3), over}, first), api.OK},
		{"overflow in between", fileOf(first, piece{"t", from(50, 3), over}, piece{"t", from(10, 1), false}), api.OK},
		{"earlier after overflow", fileOf(first, piece{"t", from(0, 1), over}, piece{"t", from(9, 1), false}), api.ErrOrder},
		{"third is earlier than first", fileOf(piece{"t", from(3, 2), false}, piece{"t", from(7, 2), false}, piece{"t", from(6, 1), false}), api.ErrOrder},
		{"another byte", append(fileOf(first), 0), api.ErrForm},
		{"torn off", fileOf(first, piece{"u", a, false})[:30], api.ErrSyntax},
		{"wrong sum", append(fileOf(first), wrong...), api.ErrSum},
		{"sum before order", slices.Concat(wrong, fileOf(first, first)), api.ErrSum},
		{"order before sum", slices.Concat(fileOf(first, first), wrong), api.ErrOrder},
		{"sum and order in one block", slices.Concat(fileOf(piece{"t", from(60, 1), false}), wrong), api.ErrSum},
		{"no key", append(fileOf(first), raw(0, "T", 1, 5, 3, 0)...), api.ErrName},
		{"no series", append(fileOf(first), raw(0, "u", 1, 5, 3, 4)...), api.ErrKind},
		{"series and order in one block", append(fileOf(first), raw(0, "t", 1, 0, 3, 4)...), api.ErrKind},
		{"as many bytes as can be", filler(api.MaxFile), api.OK},
		{"too many bytes", filler(api.MaxFile + 1), api.ErrLarge},
		{"too many bytes of no form", make([]byte, api.MaxFile+1), api.ErrLarge},
		{"as many bytes as can be of no form", make([]byte, api.MaxFile), api.ErrForm},
	} {
		for name, x := range withFile(c.file, "t", nil, all()) {
			same(t, name+" "+c.what, x.e, c.want)
		}
		if c.want == api.OK {
			continue
		}
		for name, x := range withFile(c.file, "T", series{good(-1, 0)}, api.Window{From: 5, To: 4}) {
			same(t, name+" before others "+c.what, x, result{nil, c.want})
		}
	}
}

func TestP33ErrorsAfterFiles(t *testing.T) {
	file := fileOf(piece{"t", from(5, 5), false})
	wrong := series{good(1, 0), good(1, 0)}
	for _, tag := range []string{"", "T", "t ", longest + "b"} {
		for _, name := range []string{"Append", "Find", "Query"} {
			same(t, name+" before others", withFile(file, tag, wrong, api.Window{From: 5, To: 4})[name], result{nil, api.ErrName})
		}
	}
	same(t, "Append order", withFile(file, "t", wrong, all())["Append"], result{nil, api.ErrOrder})
	same(t, "Append kind", withFile(file, "t", series{{Quality: -1}}, all())["Append"], result{nil, api.ErrKind})
	same(t, "Append too many", withFile(file, "t", from(0, api.MaxSamples+1), all())["Append"], result{nil, api.ErrLarge})
	for w, want := range map[api.Window]api.Errno{
		{From: 0, To: 0}:                     api.OK,
		{From: 0, To: api.End}:               api.OK,
		{From: api.End, To: api.End}:         api.OK,
		{From: -1, To: 4}:                    api.ErrArg,
		{From: 5, To: 4}:                     api.ErrArg,
		{From: 0, To: api.End + 1}:           api.ErrArg,
		{From: math.MinInt, To: math.MaxInt}: api.ErrArg,
		{From: math.MaxInt, To: math.MinInt}: api.ErrArg,
	} {
		for _, name := range []string{"Find", "Query"} {
			same(t, name, withFile(file, "t", nil, w)[name].e, want)
		}
	}
}

func TestP33Append(t *testing.T) {
	const full = api.BlockSamples
	old := piece{"t", from(1000, 5), false} // until 1004
	for _, c := range []struct {
		what string
		file []piece
		tag  string
		l    series
		want []piece
	}{
		{"nothing to nothing", nil, "t", nil, nil},
		{"nothing", []piece{old}, "t", nil, nil},
		{"to nothing", nil, "t", from(0, 5), []piece{{"t", from(0, 5), false}}},
		{"later", []piece{old}, "t", from(1005, 5), []piece{{"t", from(1005, 5), false}}},
		{"at the last moment", []piece{old}, "t", from(1004, 1), []piece{{"t", from(1004, 1), true}}},
		{"between", []piece{{"t", series{good(5, 0), good(9, 0)}, false}}, "t", from(7, 1), []piece{{"t", from(7, 1), true}}},
		{"earlier", []piece{old}, "t", from(0, 5), []piece{{"t", from(0, 5), true}}},
		{"both", []piece{old}, "t", from(1002, 5), []piece{{"t", from(1002, 3), true}, {"t", series{good(1005, 3), good(1006, 4)}, false}}},
		{"another tag", []piece{old}, "u", from(1002, 5), []piece{{"u", from(1002, 5), false}}},
		{"after overflow", []piece{{"t", from(1000, 5), true}}, "t", from(0, 5), []piece{{"t", from(0, 5), false}}},
		{"after both", []piece{old, {"t", from(2000, 5), true}}, "t", from(1005, 5), []piece{{"t", from(1005, 5), false}}},
		{"after two", []piece{{"t", from(1, 1), false}, old}, "t", from(2, 5), []piece{{"t", from(2, 5), true}}},
		{"a full block", nil, "t", from(0, full), []piece{{"t", from(0, full), false}}},
		{"one more", nil, "t", from(0, full+1), []piece{{"t", from(0, full), false}, {"t", from(0, full+1)[full:], false}}},
		{"full overflow", []piece{old}, "t", from(0, 2*full), []piece{{"t", from(0, full), true}, {"t", from(0, 2*full)[full:], true}}},
	} {
		b, e := block.Append(fileOf(c.file...), c.tag, c.l)
		want := fileOf(append(slices.Clone(c.file), c.want...)...)
		if e != api.OK || !bytes.Equal(b, want) {
			t.Errorf("%s: %v, %d, not %v", c.what, b, e, want)
		}
	}
}

func TestP33AppendManyOfBothKinds(t *testing.T) {
	file := fileOf(piece{"u", from(0, 3), false}, piece{"t", from(2000, 5), false}, piece{"t", from(1, 2), true})
	b, e := block.Append(file, "t", from(1650, 1000)) // 355 and 645
	index, _ := block.Index(b)
	same(t, "error", e, api.OK)
	same(t, "what was there", bytes.HasPrefix(b, file), true)
	want := [][3]any{{0, 2, false}, {2000, 2004, false}, {1, 2, true}, {1650, 1749, true}, {1750, 1849, true}, {1850, 1949, true}, {1950, 2004, true},
		{2005, 2104, false}, {2105, 2204, false}, {2205, 2304, false}, {2305, 2404, false}, {2405, 2504, false}, {2505, 2604, false}, {2605, 2649, false}}
	for i, x := range index {
		same(t, "block", [3]any{x.First, x.Last, x.Overflow}, want[i])
	}
	same(t, "blocks", len(index), len(want))
}

func TestP33AppendFull(t *testing.T) {
	l := series{good(5, 3), good(9, 1)} // 13 bytes
	for n, want := range map[int]api.Errno{api.MaxFile - 14: api.OK, api.MaxFile - 13: api.OK, api.MaxFile - 12: api.ErrFull, api.MaxFile: api.ErrFull} {
		b, e := block.Append(filler(n), "t", l)
		same(t, "error", e, want)
		if want == api.OK {
			same(t, "bytes", len(b), n+13)
		} else {
			same(t, "bytes", len(b), 0)
		}
	}
	b, e := block.Append(filler(api.MaxFile), "t", nil)
	same(t, "nothing", []any{len(b), e}, []any{api.MaxFile, api.OK})
	_, e = block.Append(filler(api.MaxFile), "T", l)
	same(t, "name before full", e, api.ErrName)
	_, e = block.Append(filler(api.MaxFile), "t", series{good(5, 3), good(5, 1)})
	same(t, "series before full", e, api.ErrOrder)
}

func TestP33Find(t *testing.T) {
	r := rand.New(rand.NewSource(11))
	for i := range 200 {
		pieces := somePieces(r, i%12)
		file := fileOf(pieces...)
		for range 20 {
			w := api.Window{From: r.Intn(60)}
			w.To = w.From + r.Intn(9)
			for _, tag := range []string{"a", "b", "b-2", "b-", "z"} {
				var want []api.Block
				for _, x := range indexOf(pieces) {
					has := false
					for at := w.From; at < w.To; at++ {
						has = has || x.First <= at && at <= x.Last
					}
					if x.Tag == tag && has {
						want = append(want, x)
					}
				}
				l, e := block.Find(file, tag, w)
				same(t, fmt.Sprint("in ", w), []any{l, e}, []any{want, api.OK})
			}
		}
	}
}

func TestP33FindAtBounds(t *testing.T) {
	file := fileOf(piece{"t", series{good(10, 0), good(20, 0)}, false})
	for w, want := range map[api.Window]int{
		{From: 0, To: 10}: 0, {From: 0, To: 11}: 1, {From: 10, To: 11}: 1, {From: 12, To: 15}: 1, {From: 20, To: 21}: 1, {From: 20, To: 90}: 1, {From: 21, To: 90}: 0,
		{From: 15, To: 15}: 0, {From: 10, To: 10}: 0, {From: 20, To: 20}: 0, {From: 0, To: 90}: 1,
	} {
		l, e := block.Find(file, "t", w)
		same(t, fmt.Sprint(w), []any{len(l), e}, []any{want, api.OK})
	}
}

func TestP33Query(t *testing.T) {
	r := rand.New(rand.NewSource(12))
	for i := range 300 {
		pieces := somePieces(r, i%15)
		file := fileOf(pieces...)
		for range 10 {
			w := api.Window{From: r.Intn(40)}
			w.To = w.From + r.Intn(60)
			for _, tag := range []string{"a", "b", "b-2", "z"} {
				l, e := block.Query(file, tag, w)
				same(t, fmt.Sprint("in ", w), []any{l, e}, []any{samplesOf(pieces, tag, w), api.OK})
			}
		}
	}
}

func TestP33QueryTakesTheLastBlock(t *testing.T) {
	file := fileOf(
		piece{"t", series{good(1, 10), good(3, 30), good(5, 50)}, false},
		piece{"t", series{good(3, 31), good(4, 41), good(9, 91)}, true},
		piece{"u", series{good(3, 99)}, true},
		piece{"t", series{bad(3), good(2, 22)}[:1], true},
		piece{"t", series{good(9, 92)}, false},
	)
	l, e := block.Query(file, "t", all())
	same(t, "all", []any{l, e}, []any{series{good(1, 10), bad(3), good(4, 41), good(5, 50), good(9, 92)}, api.OK})
	l, e = block.Query(file, "t", api.Window{From: 3, To: 5})
	same(t, "some", []any{l, e}, []any{series{bad(3), good(4, 41)}, api.OK})
	l, e = block.Query(file, "v", all())
	same(t, "another tag", []any{l, e}, []any{"[]", api.OK})
}

// grown returns a file with n samples of a tag, from a moment on.
func grown(t *testing.T, file []byte, tag string, at, n int) []byte {
	t.Helper()
	for n > 0 {
		some := min(n, api.MaxSamples)
		longer, e := block.Append(file, tag, from(at, some))
		if e != api.OK {
			t.Fatalf("Append: error %d", e)
		}
		file, at, n = longer, at+some, n-some
	}
	return file
}

func TestP33QueryLarge(t *testing.T) {
	file := grown(t, nil, "t", 0, api.MaxSamples)
	file = grown(t, file, "t", 0, api.MaxSamples)
	l, e := block.Query(file, "t", all())
	same(t, "each twice", []any{len(l), e}, []any{api.MaxSamples, api.OK})
	file = grown(t, file, "t", api.MaxSamples, 1)
	l, e = block.Query(file, "t", all())
	same(t, "one more", []any{l, e}, []any{"[]", api.ErrLarge})
	l, e = block.Query(file, "t", api.Window{From: 1, To: api.End})
	same(t, "all but one", []any{len(l), e}, []any{api.MaxSamples, api.OK})
	_, e = block.Query(file, "t", api.Window{From: -1, To: api.End})
	same(t, "window before large", e, api.ErrArg)
}

func TestP33Tags(t *testing.T) {
	l, e := block.Tags(nil)
	same(t, "none", []any{l, e}, []any{"[]", api.OK})
	x := from(0, 1)
	file := fileOf(piece{"b", x, false}, piece{"b-", x, true}, piece{"a9", x, true}, piece{"b", x, true}, piece{"a", x, false}, piece{"a_", x, false}, piece{"b", x, true})
	l, e = block.Tags(file)
	same(t, "tags", []any{l, e}, []any{[]string{"a", "a9", "a_", "b", "b-"}, api.OK})
}
