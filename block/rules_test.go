package block_test

import (
	"bytes"
	"fmt"
	"math"
	"math/rand"
	"slices"
	"strings"
	"sync"
	"testing"

	"plantlog/api"
	"plantlog/block"
)

// result is what a call returned: all but the error, and the error.
type result struct {
	value any
	e     api.Errno
}

// of leaves out the value if it is empty.
func of[T any](l []T, e api.Errno) result {
	if len(l) == 0 {
		return result{nil, e}
	}
	return result{l, e}
}

func of2[T, U any](a T, b U, e api.Errno) result { return result{[]any{a, b}, e} }

// everyCall calls each function of the package with the arguments it takes of these.
func everyCall(file []byte, tag string, l series, w api.Window, n int) []result {
	size, e := block.Size(tag, l)
	r := []result{
		of(block.Varint(n)),
		of2(block.Unvarint(file, n)),
		{block.Checksum(file), api.OK},
		of(block.Encode(tag, l, false)),
		of(block.Encode(tag, l, true)),
		of2(block.Decode(file, n)),
		of2(block.Recover(file)),
		of2(block.Salvage(file)),
		{size, e},
	}
	others := withFile(file, tag, l, w)
	for _, name := range []string{"Append", "Index", "Find", "Query", "Tags", "Compact"} {
		r = append(r, others[name])
	}
	return r
}

func someInt(r *rand.Rand) int {
	list := []int{math.MinInt, math.MinInt + 1, -api.End, -most - 1, -most, -api.MaxValue - 1, -api.MaxValue, -1, 0, 1, 2, 3, 5, 9, api.MaxValue, api.MaxValue + 1, api.End - 1, api.End, most, most + 1, math.MaxInt - 1, math.MaxInt}
	return list[r.Intn(len(list))]
}

// TestZ1Z3Z6AllInts: with whatever ints and bytes, each call returns, and with an error all else is zero.
func TestZ1Z3Z6AllInts(t *testing.T) {
	r := rand.New(rand.NewSource(30))
	zero := []string{"<nil>", "0", "[0 0]", "[{Offset:0 Long:0 Tag: First:0 Last:0 Count:0 Overflow:false} []]", "[[] 0]"}
	fails, works := 0, 0
	for range 4000 {
		l := someSeries(r, r.Intn(8))
		if i := r.Intn(12); i < len(l) {
			l[i] = api.Sample{At: someInt(r), Value: someInt(r), Quality: someInt(r)}
		}
		file := spoiltFile(r)
		if r.Intn(4) == 0 {
			r.Read(file)
		}
		tag := []string{"a", "b", "T", ""}[r.Intn(4)]
		w := api.Window{From: someInt(r), To: someInt(r)}
		for _, y := range everyCall(file, tag, l, w, someInt(r)) {
			if y.e == api.OK {
				works++
				continue
			}
			fails++
			if s := fmt.Sprintf("%+v", y.value); !slices.Contains(zero, s) {
				t.Errorf("with error %d: %s", y.e, s)
			}
		}
	}
	if fails == 0 || works == 0 {
		t.Errorf("%d calls fail, %d work", fails, works)
	}
}

// TestZ1ManyElements: also with files that look like a block at many offsets.
func TestZ1ManyElements(t *testing.T) {
	const many = 200_000
	header := []byte{api.MagicByte, 1, 2, 't', 200, 1}
	for _, file := range [][]byte{
		make([]byte, many),
		bytes.Repeat([]byte{128}, many),
		bytes.Repeat([]byte{api.MagicByte, 0}, many/2),
		bytes.Repeat(header, many/len(header)),
		filler(many),
	} {
		for _, n := range []int{0, 6, many} {
			everyCall(file, strings.Repeat("t", many), make(series, many), all(), n)
			everyCall(file, "t", from(0, api.MaxSamples), all(), n)
		}
	}
}

// ordinary returns the results of all calls with arguments that each call can work with, made anew.
func ordinary(look func(file []byte, l series)) []result {
	file := fileOf(piece{"t", from(5, 5), false}, piece{"u", from(5, 5), false}, piece{"t", from(3, 4), true}, piece{"t", from(20, 5), false})
	file = append(file, api.MagicByte, 9)[:len(file)]
	l := append(series{good(1, 5), uncertain(22, 6), bad(30)}, good(99, 9))[:3]
	look(file, l)
	return everyCall(file, "t", l, all(), 0)
}

func TestOrdinaryCallsWork(t *testing.T) {
	for i, x := range ordinary(func([]byte, series) {}) {
		if i != 1 { // a file does not begin with a number
			same(t, fmt.Sprintf("call %d", i), x.e, api.OK)
		}
	}
}

func TestZ2ArgumentsAreNotModified(t *testing.T) {
	var file, fileBefore []byte
	var l, before series
	ordinary(func(a []byte, b series) {
		file, l = a[:cap(a)], b[:cap(b)]
		fileBefore, before = slices.Clone(file), slices.Clone(l)
	})
	same(t, "the arguments", []any{file, l}, []any{fileBefore, before})
}

func TestZ2ResultsAreNewMemory(t *testing.T) {
	var kept []any
	first := ordinary(func(file []byte, l series) { kept = []any{file, l} })
	before := fmt.Sprint(kept, ordinary(func([]byte, series) {}))
	for _, x := range first {
		parts, ok := x.value.([]any)
		if !ok {
			parts = []any{x.value}
		}
		for _, part := range parts {
			switch list := part.(type) {
			case []byte:
				spoil(list, 7)
			case series:
				spoil(list, api.Sample{At: -7, Value: -7})
			case []api.Block:
				spoil(list, api.Block{Offset: -7, Tag: "-7"})
			case []string:
				spoil(list, "-7")
			}
		}
	}
	same(t, "after the results were changed", fmt.Sprint(kept, ordinary(func([]byte, series) {})), before)
}

// TestZ2TagsAreNotKept: the tag of a block stays as it is if the bytes change.
func TestZ2TagsAreNotKept(t *testing.T) {
	b := written("tag", from(0, 3), false)
	x, _, _ := block.Decode(b, 0)
	index, _ := block.Index(b)
	tags, _ := block.Tags(b)
	spoil(b, 'x')
	same(t, "tags", []string{x.Tag, index[0].Tag, tags[0]}, []string{"tag", "tag", "tag"})
}

// spoil overwrites a list, and what memory it has after its end.
func spoil[T any](list []T, x T) {
	list = list[:cap(list)]
	for i := range list {
		list[i] = x
	}
}

func TestZ5EmptyAndNil(t *testing.T) {
	none, empty := everyCall(nil, "t", nil, all(), 0), everyCall([]byte{}, "t", series{}, all(), 0)
	same(t, "empty lists", empty, none)
}

func TestZ1Z7ManyAtOnce(t *testing.T) {
	want := fmt.Sprint(ordinary(func([]byte, series) {}))
	var file []byte
	var l series
	ordinary(func(a []byte, b series) { file, l = a, b })
	var done sync.WaitGroup
	got := make([]string, 8)
	for i := range got {
		done.Go(func() {
			for range 50 {
				got[i] = fmt.Sprint(everyCall(file, "t", l, all(), 0))
			}
		})
	}
	done.Wait()
	for _, s := range got {
		same(t, "at once", s, want)
	}
}
