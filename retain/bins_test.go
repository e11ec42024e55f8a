package retain_test

import (
	"fmt"
	"math"
	"math/rand"
	"testing"

	"plantlog/api"
	"plantlog/retain"
)

// most is how many samples a bin can count of each kind.
const most = 5_000_000

func TestP91Bins(t *testing.T) {
	for name, c := range map[string]struct {
		s    samples
		step int
		want bins
	}{
		"the example":             {samples{good(10, 5), good(20, 7), bad(30)}, 100, bins{bin(0, 12, 2, 1, 5, 7)}},
		"none":                    {nil, 100, nil},
		"others only":             {samples{bad(10), uncertain(20, 50)}, 100, bins{bin(0, 0, 0, 2, 0, 0)}},
		"values below 0":          {samples{good(10, -5), good(20, -7)}, 100, bins{bin(0, -12, 2, 0, -7, -5)}},
		"values above 0":          {samples{good(10, 7), good(20, 5), good(30, 6)}, 100, bins{bin(0, 18, 3, 0, 5, 7)}},
		"others first":            {samples{bad(1), uncertain(2, -9), good(3, 4), good(4, 6)}, 100, bins{bin(0, 10, 2, 2, 4, 6)}},
		"others last":             {samples{good(3, -4), good(4, -6), bad(5), uncertain(6, 3)}, 100, bins{bin(0, -10, 2, 2, -6, -4)}},
		"zeros":                   {samples{good(3, 0), good(4, 0)}, 100, bins{bin(0, 0, 2, 0, 0, 0)}},
		"at both ends":            {samples{good(99, 1), good(100, 2), good(199, 3), good(200, 4)}, 100, bins{bin(0, 1, 1, 0, 1, 1), bin(100, 5, 2, 0, 2, 3), bin(200, 4, 1, 0, 4, 4)}},
		"not without samples":     {samples{good(5, 1), good(505, 2)}, 100, bins{bin(0, 1, 1, 0, 1, 1), bin(500, 2, 1, 0, 2, 2)}},
		"a bin for each sample":   {samples{good(5, 1), bad(6)}, 1, bins{bin(5, 1, 1, 0, 1, 1), bin(6, 0, 0, 1, 0, 0)}},
		"a day":                   {samples{good(0, 1), good(api.DayLong-1, 2), good(api.DayLong, 3)}, api.DayLong, bins{bin(0, 3, 2, 0, 1, 2), bin(api.DayLong, 3, 1, 0, 3, 3)}},
		"the last moment":         {samples{good(api.End-2, -api.MaxValue), good(api.End-1, api.MaxValue)}, api.DayLong, bins{bin(api.End-api.DayLong, 0, 2, 0, -api.MaxValue, api.MaxValue)}},
		"the last moment, step 1": {samples{good(api.End-1, 3)}, 1, bins{bin(api.End-1, 3, 1, 0, 3, 3)}},
	} {
		got, e := retain.Bins(c.s, c.step)
		same(t, name, []any{got, e}, []any{c.want, api.OK})
	}
	l := make(samples, api.MaxSamples)
	for i := range l {
		l[i] = good(2*i, api.MaxValue)
	}
	got, e := retain.Bins(l, api.DayLong)
	same(t, "as many as can be", []any{got, e}, []any{bins{bin(0, api.MaxSamples*api.MaxValue, api.MaxSamples, 0, api.MaxValue, api.MaxValue)}, api.OK})
	got, e = retain.Bins(l, 2)
	same(t, "as many bins as can be", []any{len(got), got[4999], e}, []any{api.MaxBins, bin(9998, api.MaxValue, 1, 0, api.MaxValue, api.MaxValue), api.OK})
}

func TestP91BinsErrors(t *testing.T) {
	for name, c := range wrongSeries {
		got, e := retain.Bins(c.l, 0)
		same(t, name, []any{got, e}, []any{"[]", c.want})
	}
	for _, step := range noSteps {
		got, e := retain.Bins(samples{good(10, 5)}, step)
		same(t, fmt.Sprint("step ", step), []any{got, e}, []any{"[]", api.ErrArg})
		got, e = retain.Bins(nil, step)
		same(t, fmt.Sprint("no samples, step ", step), []any{got, e}, []any{"[]", api.ErrArg})
	}
}

// binned returns the bins of samples, as the document says it, interval by interval.
func binned(l samples, step, long int) bins {
	var list bins
	for from := 0; from < long; from += step {
		b := api.Bin{From: from, Low: math.MaxInt, High: math.MinInt}
		for _, x := range l {
			switch {
			case x.At < from || x.At >= from+step:
			case x.Quality == api.Good:
				b.Sum, b.Count, b.Low, b.High = b.Sum+x.Value, b.Count+1, min(b.Low, x.Value), max(b.High, x.Value)
			default:
				b.Other++
			}
		}
		if b.Count == 0 {
			b.Low, b.High = 0, 0
		}
		if b.Count+b.Other > 0 {
			list = append(list, b)
		}
	}
	return list
}

func TestP91BinsAsTheDocumentSays(t *testing.T) {
	r := rand.New(rand.NewSource(110))
	for range 1000 {
		l, step := someSamples(r, 60), divisors[r.Intn(len(divisors))]
		got, e := retain.Bins(l, step)
		same(t, fmt.Sprintf("%+v, step %d", l, step), []any{got, e}, []any{binned(l, step, 60), api.OK})
		same(t, "CheckBins", retain.CheckBins(got, step), api.OK)
	}
}

// wrongBins has wrong bins of 10 milliseconds.
var wrongBins = map[string]struct {
	b    bins
	want api.Errno
}{
	"too many":                    {make(bins, api.MaxBins+1), api.ErrLarge},
	"as many as can be, wrong":    {make(bins, api.MaxBins), api.ErrNone},
	"before all moments":          {bins{bin(-10, 5, 1, 0, 5, 5)}, api.ErrArg},
	"after all moments":           {bins{bin(api.End, 5, 1, 0, 5, 5)}, api.ErrArg},
	"the least From":              {bins{bin(math.MinInt, 5, 1, 0, 5, 5)}, api.ErrArg},
	"the greatest From":           {bins{bin(math.MaxInt, 5, 1, 0, 5, 5)}, api.ErrArg},
	"no multiple":                 {bins{bin(5, 5, 1, 0, 5, 5)}, api.ErrArg},
	"a Count below 0":             {bins{bin(0, -5, -1, 1, 5, 5)}, api.ErrArg},
	"a Count too great":           {bins{bin(0, 0, most+1, 0, 0, 0)}, api.ErrArg},
	"the least Count":             {bins{bin(0, 0, math.MinInt, 0, 0, 0)}, api.ErrArg},
	"the greatest Count":          {bins{bin(0, 0, math.MaxInt, 0, 0, 0)}, api.ErrArg},
	"an Other below 0":            {bins{bin(0, 5, 1, -1, 5, 5)}, api.ErrArg},
	"an Other too great":          {bins{bin(0, 5, 1, most+1, 5, 5)}, api.ErrArg},
	"the greatest Other":          {bins{bin(0, 0, 0, math.MaxInt, 0, 0)}, api.ErrArg},
	"no samples":                  {bins{bin(0, 0, 0, 0, 0, 0)}, api.ErrNone},
	"no samples, a wrong Low":     {bins{bin(0, 5, 0, 0, api.MaxValue+1, 0)}, api.ErrNone},
	"no moment, no samples":       {bins{bin(-10, 0, 0, 0, 0, 0)}, api.ErrArg},
	"no multiple, no samples":     {bins{bin(5, 0, 0, 0, 0, 0)}, api.ErrArg},
	"a Low too low":               {bins{bin(0, 0, 1, 0, -api.MaxValue-1, 0)}, api.ErrArg},
	"a Low too high":              {bins{bin(0, 0, 1, 0, api.MaxValue+1, 0)}, api.ErrArg},
	"a High too low":              {bins{bin(0, 0, 1, 0, 0, -api.MaxValue-1)}, api.ErrArg},
	"a High too high":             {bins{bin(0, 0, 1, 0, 0, api.MaxValue+1)}, api.ErrArg},
	"the least Low":               {bins{bin(0, 0, 1, 0, math.MinInt, 0)}, api.ErrArg},
	"the greatest High":           {bins{bin(0, 0, 1, 0, 0, math.MaxInt)}, api.ErrArg},
	"a High, of others":           {bins{bin(0, 0, 0, 1, 0, api.MaxValue+1)}, api.ErrArg},
	"others with a Sum":           {bins{bin(0, 1, 0, 1, 0, 0)}, api.ErrForm},
	"others with a Sum below 0":   {bins{bin(0, -1, 0, 1, 0, 0)}, api.ErrForm},
	"others with a Low":           {bins{bin(0, 0, 0, 1, -1, 0)}, api.ErrForm},
	"others with a High":          {bins{bin(0, 0, 0, 1, 0, 1)}, api.ErrForm},
	"others with both":            {bins{bin(0, 0, 0, 1, 1, 1)}, api.ErrForm},
	"a Sum too small":             {bins{bin(0, 9, 2, 0, 5, 7)}, api.ErrForm},
	"a Sum too great":             {bins{bin(0, 15, 2, 0, 5, 7)}, api.ErrForm},
	"the least Sum":               {bins{bin(0, math.MinInt, 2, 0, 5, 7)}, api.ErrForm},
	"the greatest Sum":            {bins{bin(0, math.MaxInt, 2, 0, 5, 7)}, api.ErrForm},
	"the greatest Sum, of others": {bins{bin(0, math.MaxInt, 0, 5, 0, 0)}, api.ErrForm},
	"Low and High the wrong way":  {bins{bin(0, 12, 2, 0, 7, 5)}, api.ErrForm},
	"a little too great":          {bins{bin(0, most*api.MaxValue+1, most, 0, -api.MaxValue, api.MaxValue)}, api.ErrForm},
	"the same again":              {bins{bin(10, 5, 1, 0, 5, 5), bin(10, 5, 1, 0, 5, 5)}, api.ErrOrder},
	"an earlier one":              {bins{bin(10, 5, 1, 0, 5, 5), bin(0, 5, 1, 0, 5, 5)}, api.ErrOrder},
	"the third one is earlier":    {bins{bin(0, 5, 1, 0, 5, 5), bin(20, 5, 1, 0, 5, 5), bin(10, 5, 1, 0, 5, 5)}, api.ErrOrder},
	"no sum, out of order":        {bins{bin(10, 5, 1, 0, 5, 5), bin(0, 4, 1, 0, 5, 5)}, api.ErrForm},
	"out of order, then no sum":   {bins{bin(10, 5, 1, 0, 5, 5), bin(0, 5, 1, 0, 5, 5), bin(20, 4, 1, 0, 5, 5)}, api.ErrOrder},
	"no sum, then out of order":   {bins{bin(10, 4, 1, 0, 5, 5), bin(0, 5, 1, 0, 5, 5)}, api.ErrForm},
	"no sum, then no multiple":    {bins{bin(10, 4, 1, 0, 5, 5), bin(15, 5, 1, 0, 5, 5)}, api.ErrForm},
	"the second one has none":     {bins{bin(0, 5, 1, 0, 5, 5), bin(10, 0, 0, 0, 0, 0)}, api.ErrNone},
}

// fullBins returns n bins of a good sample each.
func fullBins(n, step int) bins {
	b := make(bins, n)
	for i := range b {
		b[i] = bin(i*step, i%7-3, 1, 0, i%7-3, i%7-3)
	}
	return b
}

func TestP91CheckBins(t *testing.T) {
	for name, c := range wrongBins {
		same(t, name, retain.CheckBins(c.b, 10), c.want)
	}
	for _, step := range noSteps {
		same(t, fmt.Sprint("step ", step), retain.CheckBins(make(bins, api.MaxBins+1), step), api.ErrArg)
		same(t, fmt.Sprint("no bins, step ", step), retain.CheckBins(nil, step), api.ErrArg)
	}
	for name, b := range map[string]bins{
		"none":              nil,
		"others":            {bin(0, 0, 0, 1, 0, 0)},
		"the least Sum":     {bin(0, 10, 2, 0, 5, 7)},
		"the greatest Sum":  {bin(0, 14, 2, 0, 5, 7)},
		"below 0":           {bin(0, -12, 2, 3, -7, -5)},
		"the bounds":        {bin(0, most*api.MaxValue, most, most, -api.MaxValue, api.MaxValue)},
		"the bounds, below": {bin(0, -most*api.MaxValue, most, most, -api.MaxValue, api.MaxValue)},
		"the last one":      {bin(api.End-10, 5, 1, 0, 5, 5)},
		"two":               {bin(0, 5, 1, 0, 5, 5), bin(10, 0, 0, 1, 0, 0)},
		"as many as can be": fullBins(api.MaxBins, 10),
	} {
		same(t, name, retain.CheckBins(b, 10), api.OK)
	}
	same(t, "another step", retain.CheckBins(bins{bin(5, 5, 1, 0, 5, 5)}, 5), api.OK)
	same(t, "a day", retain.CheckBins(bins{bin(api.End-api.DayLong, 5, 1, 0, 5, 5)}, api.DayLong), api.OK)
}

func TestP91Coarser(t *testing.T) {
	b := bins{bin(0, 12, 2, 1, 5, 7), bin(10, 0, 0, 3, 0, 0), bin(20, -9, 3, 0, -4, -2), bin(50, 0, 0, 1, 0, 0), bin(70, 0, 0, 2, 0, 0), bin(90, 8, 1, 0, 8, 8)}
	for to, want := range map[int]bins{
		10:  b,
		20:  {bin(0, 12, 2, 4, 5, 7), bin(20, -9, 3, 0, -4, -2), bin(40, 0, 0, 1, 0, 0), bin(60, 0, 0, 2, 0, 0), bin(80, 8, 1, 0, 8, 8)},
		30:  {bin(0, 3, 5, 4, -4, 7), bin(30, 0, 0, 1, 0, 0), bin(60, 0, 0, 2, 0, 0), bin(90, 8, 1, 0, 8, 8)},
		40:  {bin(0, 3, 5, 4, -4, 7), bin(40, 0, 0, 3, 0, 0), bin(80, 8, 1, 0, 8, 8)},
		50:  {bin(0, 3, 5, 4, -4, 7), bin(50, 8, 1, 3, 8, 8)},
		100: {bin(0, 11, 6, 7, -4, 8)},
	} {
		got, e := retain.Coarser(b, 10, to)
		same(t, fmt.Sprint("to ", to), []any{got, e}, []any{want, api.OK})
	}
	got, e := retain.Coarser(nil, 10, 20)
	same(t, "no bins", []any{got, e}, []any{"[]", api.OK})
	got, e = retain.Coarser(fullBins(api.MaxBins, 1), 1, 1)
	same(t, "as many as can be", []any{len(got), e}, []any{api.MaxBins, api.OK})
	got, e = retain.Coarser(bins{bin(api.End-1, 3, 1, 0, 3, 3)}, 1, api.DayLong)
	same(t, "the last moment", []any{got, e}, []any{bins{bin(api.End-api.DayLong, 3, 1, 0, 3, 3)}, api.OK})
}

func TestP91CoarserErrors(t *testing.T) {
	for name, c := range wrongBins {
		got, e := retain.Coarser(c.b, 10, 0)
		same(t, name, []any{got, e}, []any{"[]", c.want})
	}
	for _, step := range noSteps {
		got, e := retain.Coarser(make(bins, api.MaxBins+1), step, 10)
		same(t, fmt.Sprint("from ", step), []any{got, e}, []any{"[]", api.ErrArg})
		got, e = retain.Coarser(fullBins(3, 10), 10, step)
		same(t, fmt.Sprint("to ", step), []any{got, e}, []any{"[]", api.ErrArg})
	}
	for _, to := range []int{1, 5, 15, 16, 25} {
		got, e := retain.Coarser(fullBins(3, 10), 10, to)
		same(t, fmt.Sprint("to ", to), []any{got, e}, []any{"[]", api.ErrRule})
	}
	for name, c := range map[string]struct {
		b    bins
		want api.Errno
	}{
		"the greatest Count":              {bins{bin(0, 1, most-1, 0, 0, 1), bin(10, 1, 1, 0, 1, 1)}, api.OK},
		"a Count too great":               {bins{bin(0, 1, most, 0, 0, 1), bin(10, 1, 1, 0, 1, 1)}, api.ErrLarge},
		"the greatest Other":              {bins{bin(0, 0, 0, 1, 0, 0), bin(10, 0, 0, most-1, 0, 0)}, api.OK},
		"an Other too great":              {bins{bin(0, 0, 0, 1, 0, 0), bin(10, 0, 0, most, 0, 0)}, api.ErrLarge},
		"both are great":                  {bins{bin(0, 1, most, 0, 0, 1), bin(10, 0, 0, most, 0, 0)}, api.OK},
		"not in one interval":             {bins{bin(0, 1, most, most, 0, 1), bin(20, 1, most, most, 0, 1)}, api.OK},
		"too great at the end":            {bins{bin(0, 1, 1, 0, 1, 1), bin(20, 1, most, 0, 0, 1), bin(30, 1, 1, 0, 1, 1)}, api.ErrLarge},
		"too great, and not at the end":   {bins{bin(0, 1, most, 0, 0, 1), bin(10, 1, 1, 0, 1, 1), bin(20, 1, 1, 0, 1, 1)}, api.ErrLarge},
		"the greatest Count, in two bins": {bins{bin(0, 0, most, 0, 0, 0), bin(10, 0, most, 0, 0, 0)}, api.ErrLarge},
	} {
		got, e := retain.Coarser(c.b, 10, 20)
		same(t, name, e, c.want)
		if e != api.OK {
			same(t, name, got, "[]")
		}
	}
	got, e := retain.Coarser(bins{bin(0, 1, most, 0, 0, 1), bin(10, 1, 1, 0, 1, 1)}, 10, 15)
	same(t, "no multiple, and a Count too great", []any{got, e}, []any{"[]", api.ErrRule})
}

// TestP91CoarserBinsAreTheBinsOfTheSamples: as said under 'What follows'.
func TestP91CoarserBinsAreTheBinsOfTheSamples(t *testing.T) {
	r := rand.New(rand.NewSource(111))
	for range 1000 {
		l, step := someSamples(r, 80), divisors[r.Intn(len(divisors))]
		to := someStep(r, step)
		b, _ := retain.Bins(l, step)
		want, _ := retain.Bins(l, to)
		got, e := retain.Coarser(b, step, to)
		same(t, fmt.Sprintf("%+v, from %d to %d", l, step, to), []any{got, e}, []any{want, api.OK})
	}
}

func TestP91MergeBins(t *testing.T) {
	a := bins{bin(0, 12, 2, 1, 5, 7), bin(10, 0, 0, 3, 0, 0), bin(30, -9, 3, 0, -4, -2)}
	for name, c := range map[string]struct{ b, want bins }{
		"none":                 {nil, a},
		"one that is first":    {bins{bin(20, 5, 1, 0, 5, 5)}, bins{a[0], a[1], bin(20, 5, 1, 0, 5, 5), a[2]}},
		"one that is last":     {bins{bin(40, 5, 1, 0, 5, 5)}, bins{a[0], a[1], a[2], bin(40, 5, 1, 0, 5, 5)}},
		"of the same interval": {bins{bin(0, 4, 1, 2, 4, 4)}, bins{bin(0, 16, 3, 3, 4, 7), a[1], a[2]}},
		"for others":           {bins{bin(10, 5, 1, 0, 5, 5)}, bins{a[0], bin(10, 5, 1, 3, 5, 5), a[2]}},
		"others":               {bins{bin(30, 0, 0, 2, 0, 0)}, bins{a[0], a[1], bin(30, -9, 3, 2, -4, -2)}},
		"others for others":    {bins{bin(10, 0, 0, 2, 0, 0)}, bins{a[0], bin(10, 0, 0, 5, 0, 0), a[2]}},
		"the same":             {a, bins{bin(0, 24, 4, 2, 5, 7), bin(10, 0, 0, 6, 0, 0), bin(30, -18, 6, 0, -4, -2)}},
	} {
		got, e := retain.MergeBins(a, c.b, 10)
		same(t, name, []any{got, e}, []any{c.want, api.OK})
		got, e = retain.MergeBins(c.b, a, 10)
		same(t, name+", first", []any{got, e}, []any{c.want, api.OK})
	}
}

func TestP91MergeBinsErrors(t *testing.T) {
	for name, c := range wrongBins {
		got, e := retain.MergeBins(c.b, bins{bin(5, 0, 0, 0, 0, 0)}, 10)
		same(t, name, []any{got, e}, []any{"[]", c.want})
		got, e = retain.MergeBins(fullBins(3, 10), c.b, 10)
		same(t, name+", second", []any{got, e}, []any{"[]", c.want})
	}
	for _, step := range noSteps {
		got, e := retain.MergeBins(make(bins, api.MaxBins+1), nil, step)
		same(t, fmt.Sprint("step ", step), []any{got, e}, []any{"[]", api.ErrArg})
	}
	one := bins{bin(0, 1, 1, 1, 1, 1)}
	for name, c := range map[string]struct {
		a, b bins
		want api.Errno
	}{
		"the greatest Count": {bins{bin(0, 1, most-1, 0, 0, 1)}, one, api.OK},
		"a Count too great":  {bins{bin(0, 1, most, 0, 0, 1)}, one, api.ErrLarge},
		"the greatest Other": {bins{bin(0, 0, 0, most-1, 0, 0)}, one, api.OK},
		"an Other too great": {bins{bin(0, 0, 0, most, 0, 0)}, one, api.ErrLarge},
		"another interval":   {bins{bin(10, 1, most, most, 0, 1)}, one, api.OK},
		"as many as can be":  {fullBins(api.MaxBins-1, 10), bins{bin(api.End-10, 1, 1, 1, 1, 1)}, api.OK},
		"too many":           {fullBins(api.MaxBins, 10), bins{bin(api.End-10, 1, 1, 1, 1, 1)}, api.ErrLarge},
		"many, of intervals": {fullBins(api.MaxBins, 10), fullBins(api.MaxBins, 10), api.OK},
	} {
		for _, pair := range [][2]bins{{c.a, c.b}, {c.b, c.a}} {
			got, e := retain.MergeBins(pair[0], pair[1], 10)
			same(t, name, e, c.want)
			if e != api.OK {
				same(t, name, got, "[]")
			}
		}
	}
}

// TestP91MergedBinsAreTheBinsOfBoth: samples that are in either series are in the bins of both.
func TestP91MergedBinsAreTheBinsOfBoth(t *testing.T) {
	r := rand.New(rand.NewSource(112))
	for range 1000 {
		l, step := someSamples(r, 60), divisors[r.Intn(len(divisors))]
		var parts [2]samples
		for _, x := range l {
			i := r.Intn(2)
			parts[i] = append(parts[i], x)
		}
		a, _ := retain.Bins(parts[0], step)
		b, _ := retain.Bins(parts[1], step)
		want, _ := retain.Bins(l, step)
		got, e := retain.MergeBins(a, b, step)
		same(t, fmt.Sprintf("%+v, step %d", parts, step), []any{got, e}, []any{want, api.OK})
	}
}
