package compress_test

import (
	"fmt"
	"math/rand"
	"testing"

	"plantlog/api"
	"plantlog/compress"
)

// streamed returns what a compressor returns for a whole series.
func streamed(t *testing.T, c *compress.Compressor, l series) series {
	t.Helper()
	var all series
	for _, x := range l {
		part, e := c.Add(x)
		same(t, fmt.Sprint("Add of ", x), e, api.OK)
		all = append(all, part...)
	}
	return append(all, c.Flush()...)
}

func newCompressor(t *testing.T, d api.Door) *compress.Compressor {
	t.Helper()
	c, e := compress.New(d)
	if e != api.OK || c == nil {
		t.Fatal(d, e)
	}
	return c
}

func TestP23New(t *testing.T) {
	for n, want := range ranges(0, 2*api.MaxValue) {
		c, e := compress.New(api.Door{Deviation: n, MaxGap: 1})
		same(t, fmt.Sprint("deviation ", n), []any{c != nil, e}, []any{want == api.OK, want})
	}
	for n, want := range ranges(1, api.MaxGapLong) {
		c, e := compress.New(api.Door{MaxGap: n})
		same(t, fmt.Sprint("gap ", n), []any{c != nil, e}, []any{want == api.OK, want})
	}
}

func TestP23Stream(t *testing.T) {
	type step struct {
		x    api.Sample
		want series
	}
	for name, c := range map[string]struct {
		d     api.Door
		steps []step
		want  series
	}{
		"nothing":    {api.Door{MaxGap: 9}, nil, nil},
		"one sample": {api.Door{MaxGap: 9}, []step{{good(5, 5), series{good(5, 5)}}}, nil},
		"the example": {api.Door{Deviation: 1, MaxGap: 100}, []step{
			{good(0, 0), series{good(0, 0)}}, {good(1, 1), nil}, {good(2, 2), nil}, {good(3, 5), series{good(2, 2)}},
		}, series{good(3, 5)}},
		"another quality": {api.Door{Deviation: 1, MaxGap: 100}, []step{
			{good(0, 0), series{good(0, 0)}}, {good(1, 1), nil}, {bad(2), series{good(1, 1), bad(2)}}, {uncertain(3, 0), series{uncertain(3, 0)}},
		}, nil},
		"a gap": {api.Door{Deviation: 1, MaxGap: 5}, []step{
			{good(0, 0), series{good(0, 0)}}, {good(10, 0), nil}, {good(11, 0), series{good(10, 0)}}, {good(12, 0), nil},
		}, series{good(12, 0)}},
	} {
		stream := newCompressor(t, c.d)
		for _, s := range c.steps {
			got, e := stream.Add(s.x)
			same(t, fmt.Sprint(name, ", Add of ", s.x), []any{got, e}, []any{s.want, api.OK})
		}
		same(t, name+", Flush", stream.Flush(), c.want)
		same(t, name+", Flush again", stream.Flush(), series{})
	}
}

// TestP23StreamIsCompress compares with Compress; one compressor takes several series, also overlapping ones.
func TestP23StreamIsCompress(t *testing.T) {
	r := rand.New(rand.NewSource(2))
	for range 300 {
		d := api.Door{Deviation: r.Intn(4), MaxGap: 1 + r.Intn(12)}
		c := newCompressor(t, d)
		for range 4 {
			l := someSeries(r, 20)
			kept, _ := compress.Compress(d, l)
			want, _ := compress.Keep(l, kept)
			same(t, fmt.Sprint("stream of ", d, l), streamed(t, c, l), want)
		}
	}
}

func TestP23AddErrors(t *testing.T) {
	c := newCompressor(t, api.Door{Deviation: 1, MaxGap: 100})
	for _, step := range []struct {
		x    api.Sample
		want api.Errno
	}{
		{good(-1, 0), api.ErrArg},
		{good(10, 0), api.OK},
		{good(10, 0), api.ErrOrder},
		{good(9, 0), api.ErrOrder},
		{good(api.End, 0), api.ErrArg},
		{api.Sample{At: 9, Quality: 3}, api.ErrKind},
		{good(9, api.MaxValue+1), api.ErrArg},
		{api.Sample{At: 9, Value: 1, Quality: api.Bad}, api.ErrForm},
		{good(11, 1), api.OK},
		{good(11, 1), api.ErrOrder},
		{good(12, 2), api.OK},
		{bad(11), api.ErrOrder},
	} {
		l, e := c.Add(step.x)
		same(t, fmt.Sprint("Add of ", step.x), e, step.want)
		if e != api.OK {
			same(t, "with an error", l, series{})
		}
	}
	same(t, "Flush after errors", c.Flush(), series{good(12, 2)})
	l, e := c.Add(good(0, 7))
	same(t, "an earlier one after Flush", []any{l, e}, []any{series{good(0, 7)}, api.OK})
}

// TestP23ErrorsChangeNothing compares a stream with wrong samples in between with one without them.
func TestP23ErrorsChangeNothing(t *testing.T) {
	r := rand.New(rand.NewSource(3))
	for range 200 {
		d := api.Door{Deviation: r.Intn(4), MaxGap: 1 + r.Intn(12)}
		disturbed, quiet := newCompressor(t, d), newCompressor(t, d)
		for _, x := range someSeries(r, 20) {
			got, e := disturbed.Add(x)
			want, e2 := quiet.Add(x)
			same(t, "Add", []any{got, e}, []any{want, e2})
			later := api.Sample{At: x.At + 1, Quality: 9}
			for _, wrong := range []api.Sample{x, good(x.At, 5), bad(max(x.At-1, 0)), later, good(x.At+1, -api.MaxValue-1)} {
				if l, e := disturbed.Add(wrong); e == api.OK || len(l) > 0 {
					t.Errorf("Add of %v: %v, %d", wrong, l, e)
				}
			}
		}
		same(t, "Flush", disturbed.Flush(), quiet.Flush())
	}
}

// TestP23AnyNumberOfSamples adds far more samples than a series has, between two archived ones.
func TestP23AnyNumberOfSamples(t *testing.T) {
	const most = 500_000
	c := newCompressor(t, api.Door{Deviation: 1, MaxGap: api.MaxGapLong})
	l := long(most)
	for i := range l {
		l[i].Value = i % 2
	}
	same(t, "many samples", streamed(t, c, l), series{good(0, 0), good(most-1, 1)})
}

func TestP23CompressorsAreSeparate(t *testing.T) {
	d := api.Door{Deviation: 1, MaxGap: 100}
	a, b := newCompressor(t, d), newCompressor(t, d)
	a.Add(good(50, 1))
	l, e := b.Add(good(1, 1))
	same(t, "the other one", []any{l, e}, []any{series{good(1, 1)}, api.OK})
	a.Add(good(60, 2))
	same(t, "Flush of the other one", b.Flush(), series{})
	same(t, "Flush of the first one", a.Flush(), series{good(60, 2)})
}

func TestZ2StreamedSamplesAreNewMemory(t *testing.T) {
	c := newCompressor(t, api.Door{Deviation: 1, MaxGap: 100})
	var parts []series
	for _, x := range example() {
		part, _ := c.Add(x)
		parts = append(parts, part)
	}
	before := fmt.Sprint(parts[3])
	for _, p := range parts[:3] {
		spoil(p, api.Sample{At: -7})
	}
	same(t, "what a later Add returned", fmt.Sprint(parts[3]), before)
	spoil(parts[3], api.Sample{At: -7})
	same(t, "Flush", c.Flush(), series{good(3, 5)})
}
