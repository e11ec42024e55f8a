package sample_test

import (
	"fmt"
	"math"
	"math/rand"
	"slices"
	"strings"
	"sync"
	"testing"

	"plantlog/api"
	"plantlog/sample"
)

// result is what a call returned: the list or string, and the error.
type result struct {
	value any
	e     api.Errno
}

func of[T any](value T, e api.Errno) result { return result{value, e} }

func ofRead(l series, line int, e api.Errno) result { return result{[]any{l, line}, e} }

// everyCall calls each function of the package with the arguments it takes of these.
func everyCall(l, l2 series, f, f2 fixes, w api.Window, c api.Fraction, m, n int, text string) []result {
	r := []result{{nil, sample.CheckSeries(l)}, {nil, sample.CheckFixes(f)}}
	for _, x := range l {
		r = append(r, result{nil, sample.CheckSample(x)})
	}
	return append(r,
		of(sample.Merge(l, l2)),
		of(sample.Slice(l, w)),
		of(sample.Gaps(l, w, m)),
		of(sample.Stuck(l, m)),
		of(sample.Jumps(l, c)),
		of(sample.Scale(l, c, m)),
		of(sample.Limit(l, m, n)),
		of(sample.MergeFixes(f, f2)),
		of(sample.Fixed(l, f, m)),
		of(sample.Overridden(f, m)),
		of(sample.Changes(l, f, m, n)),
		of(sample.Text(l)),
		ofRead(sample.Read(text)),
	)
}

func someInt(r *rand.Rand) int {
	list := []int{math.MinInt, math.MinInt + 1, -api.End, -api.MaxValue - 1, -1, 0, 1, 2, 3, 5, 7, 9, api.MaxSamples, api.MaxValue, api.MaxValue + 1, api.End - 1, api.End, math.MaxInt - 1, math.MaxInt}
	return list[r.Intn(len(list))]
}

// TestZ1Z3Z6AllInts: with whatever ints, each call returns, and with an error all else is zero.
func TestZ1Z3Z6AllInts(t *testing.T) {
	r := rand.New(rand.NewSource(9))
	fails, works := 0, 0
	for range 3000 {
		l, f := someSeries(r, 6), someFixes(r, "ann", 4, 9, 6)
		if i := r.Intn(12); i < len(l) {
			l[i] = api.Sample{At: someInt(r), Value: someInt(r), Quality: someInt(r)}
		}
		if i := r.Intn(12); i < len(f) {
			f[i].Time, f[i].Kind, f[i].At = api.Window{From: someInt(r), To: someInt(r)}, r.Intn(5), someInt(r)
			f[i].No, f[i].Made, f[i].Quality = someInt(r), someInt(r), someInt(r)
		}
		w, c := api.Window{From: someInt(r), To: someInt(r)}, api.Fraction{Num: someInt(r), Den: someInt(r)}
		text := fmt.Sprintf("%d %d %s\n", someInt(r), someInt(r), []string{"good", "bad", "x"}[r.Intn(3)])
		for _, x := range everyCall(l, someSeries(r, 6), f, someFixes(r, "bob", 4, 9, 6), w, c, someInt(r), someInt(r), text) {
			if x.e == api.OK {
				works++
				continue
			}
			fails++
			if s := fmt.Sprint(x.value); x.value != nil && s != "" && s != "[]" && s != "[[] 0]" {
				t.Errorf("with error %d: %s", x.e, s)
			}
		}
	}
	if fails == 0 || works == 0 {
		t.Errorf("%d calls fail, %d work", fails, works)
	}
}

func TestZ1ManyElements(t *testing.T) {
	const most = 200_000
	l, f := long(most, 0, 1), manyFixes("ann", most)
	w, c := api.Window{From: 0, To: 9}, api.Fraction{Num: 1, Den: 1}
	for _, text := range []string{strings.Repeat("\n", most), strings.Repeat(" ", most), strings.Repeat("1", most), strings.Repeat("0 0 bad\n", most/8)} {
		for _, x := range everyCall(l, l, f, f, w, c, 5, 6, text) {
			if x.e != api.OK && x.e != api.ErrLarge && x.e != api.ErrSyntax {
				t.Errorf("error %d", x.e)
			}
		}
	}
}

// ordinary returns the results of all calls with arguments that each call of lists can work with, made anew.
func ordinary(change func(l, l2 series, f, f2 fixes)) []result {
	l := series{good(1, 5), uncertain(4, 5), bad(6), good(8, -9)}
	l2 := series{good(2, 5), good(8, 9)}
	f := fixes{set("ann", 1, 1, good(4, 8)), mark("ann", 2, 1, 0, 7, api.Bad), remove("ann", 3, 2, 8), set("ann", 4, 2, good(5, 5))}
	f2 := fixes{set("bob", 1, 1, good(4, 9)), f[2]}
	l, l2 = append(l, good(9, 9))[:4], append(l2, bad(9))[:2]
	f, f2 = append(f, api.Fix{By: "ann"})[:4], append(f2, api.Fix{})[:2]
	change(l, l2, f, f2)
	return everyCall(l, l2, f, f2, api.Window{From: 2, To: 9}, api.Fraction{Num: 1, Den: 2}, 2, 5, "1 5 good\n")
}

func TestZ2ArgumentsAreNotModified(t *testing.T) {
	type arguments struct {
		l, l2 series
		f, f2 fixes
	}
	var kept, before arguments
	ordinary(func(l, l2 series, f, f2 fixes) {
		kept = arguments{l[:cap(l)], l2[:cap(l2)], f[:cap(f)], f2[:cap(f2)]}
		before = arguments{slices.Clone(kept.l), slices.Clone(kept.l2), slices.Clone(kept.f), slices.Clone(kept.f2)}
	})
	same(t, "the arguments", kept, before)
}

func TestZ2ResultsAreNewMemory(t *testing.T) {
	var kept []any
	first := ordinary(func(l, l2 series, f, f2 fixes) { kept = []any{l, l2, f, f2} })
	before := fmt.Sprint(kept, ordinary(func(_, _ series, _, _ fixes) {}))
	for _, x := range first {
		switch list := x.value.(type) {
		case series:
			spoil(list, api.Sample{At: -7, Value: -7})
		case fixes:
			spoil(list, api.Fix{No: -7})
		case windows:
			spoil(list, api.Window{From: -7})
		case []int:
			spoil(list, -7)
		}
	}
	same(t, "after the results were changed", fmt.Sprint(kept, ordinary(func(_, _ series, _, _ fixes) {})), before)
}

// spoil overwrites a list, and what memory it has after its end.
func spoil[T any](list []T, x T) {
	list = list[:cap(list)]
	for i := range list {
		list[i] = x
	}
}

func TestZ2UnchangedSeriesAreCopied(t *testing.T) {
	l := series{good(1, 5), good(4, 5)}
	all := api.Window{From: 0, To: api.End}
	for i, x := range []result{
		of(sample.Merge(l, nil)),
		of(sample.Merge(nil, l)),
		of(sample.Slice(l, all)),
		of(sample.Scale(l, api.Fraction{Num: 1, Den: 1}, 0)),
		of(sample.Limit(l, 0, 9)),
		of(sample.Fixed(l, nil, 0)),
	} {
		same(t, fmt.Sprintf("call %d", i), []any{x.value, x.e}, []any{l, api.OK})
		x.value.(series)[0].Value = 77
		same(t, fmt.Sprintf("the argument of call %d", i), l, series{good(1, 5), good(4, 5)})
	}
	f := fixes{set("ann", 1, 1, good(4, 8))}
	merged, _ := sample.MergeFixes(f, nil)
	merged[0].No = 77
	same(t, "the fixes", f[0].No, 1)
}

func TestZ2MemoryAfterTheLength(t *testing.T) {
	l := append(series{good(1, 5)}, api.Sample{At: -1}, good(0, 0))[:1]
	f := append(fixes{set("ann", 1, 1, good(9, 8))}, api.Fix{}, api.Fix{Kind: 9})[:1]
	same(t, "CheckSeries", sample.CheckSeries(l), api.OK)
	same(t, "CheckFixes", sample.CheckFixes(f), api.OK)
	got, e := sample.Fixed(l, f, 1)
	same(t, "Fixed", []any{got, e}, []any{series{good(1, 5), good(9, 8)}, api.OK})
	same(t, "what lies behind", l[:3], series{good(1, 5), {At: -1}, good(0, 0)})
}

// TestZ4OrderOfErrors: the element in front first, then the error that is first in the list.
func TestZ4OrderOfErrors(t *testing.T) {
	wrong := api.Sample{At: -1, Value: math.MaxInt, Quality: 7}
	x := api.Fix{By: "", No: 0, Kind: 9, At: -1}
	named, numbered := x, x
	named.By = "ann"
	numbered.By, numbered.No = "ann", 1
	for name, c := range map[string][2]api.Errno{
		"At before Quality":        {sample.CheckSample(wrong), api.ErrArg},
		"Quality before Value":     {sample.CheckSample(api.Sample{Value: math.MaxInt, Quality: 7}), api.ErrKind},
		"Value before the form":    {sample.CheckSample(api.Sample{Value: math.MaxInt, Quality: api.Bad}), api.ErrArg},
		"the sample in front":      {sample.CheckSeries(series{{Quality: 7}, wrong}), api.ErrKind},
		"a sample before order":    {sample.CheckSeries(series{good(5, 5), {At: 5, Quality: 7}}), api.ErrKind},
		"order before the next":    {sample.CheckSeries(series{good(5, 5), good(5, 5), wrong}), api.ErrOrder},
		"the length before all":    {sample.CheckSeries(make(series, api.MaxSamples+1)), api.ErrLarge},
		"By before No":             {sample.CheckFixes(fixes{x}), api.ErrName},
		"No before Kind":           {sample.CheckFixes(fixes{named}), api.ErrArg},
		"Kind before other fields": {sample.CheckFixes(fixes{numbered}), api.ErrKind},
		"Sample before the form":   {sample.CheckFixes(fixes{{By: "a", No: 1, Kind: api.FixSet, Sample: wrong, At: 5}}), api.ErrArg},
		"At before the form":       {sample.CheckFixes(fixes{{By: "a", No: 1, Kind: api.FixDelete, At: -1, Quality: 1}}), api.ErrArg},
		"Time before Quality":      {sample.CheckFixes(fixes{mark("a", 1, 1, 0, 0, 7)}), api.ErrArg},
		"Quality before the form":  {sample.CheckFixes(fixes{{By: "a", No: 1, Kind: api.FixMark, Time: api.Window{To: 1}, Quality: 7, At: 5}}), api.ErrKind},
		"the form before order":    {sample.CheckFixes(fixes{remove("a", 2, 5, 0), {By: "a", No: 1, Kind: api.FixDelete, Quality: 1}}), api.ErrForm},
		"order before twice":       {sample.CheckFixes(fixes{remove("a", 1, 5, 0), remove("a", 1, 4, 0)}), api.ErrOrder},
		"all fixes before twice":   {sample.CheckFixes(fixes{remove("a", 1, 5, 0), remove("a", 1, 6, 0), {}}), api.ErrName},
		"many fixes before all":    {sample.CheckFixes(make(fixes, api.MaxFixes+1)), api.ErrLarge},
		"both series, then size":   {second(sample.Merge(long(api.MaxSamples, 0, 1), long(api.MaxSamples+1, 1, 1))), api.ErrLarge},
		"the second series":        {second(sample.Merge(long(api.MaxSamples, 0, 1), series{wrong})), api.ErrArg},
		"rate: form before size":   {second(sample.Jumps(nil, api.Fraction{Num: 2 * api.MaxFactor, Den: 2 * api.MaxFactor})), api.ErrForm},
		"factor: form before size": {second(sample.Scale(nil, api.Fraction{Num: 2, Den: 4}, math.MaxInt)), api.ErrForm},
	} {
		same(t, name, c[0], c[1])
	}
}

func TestZ5EmptyAndNil(t *testing.T) {
	w, c := api.Window{From: 0, To: 9}, api.Fraction{Num: 1, Den: 2}
	none := everyCall(nil, nil, nil, nil, w, c, 2, 5, "")
	empty := everyCall(series{}, series{}, fixes{}, fixes{}, w, c, 2, 5, "")
	same(t, "empty lists", empty, none)
	for i, x := range none {
		same(t, fmt.Sprintf("call %d", i), x.e, api.OK)
	}
}

func TestZ1Z7ManyAtOnce(t *testing.T) {
	var kept []any
	want := fmt.Sprint(ordinary(func(l, l2 series, f, f2 fixes) { kept = []any{l, l2, f, f2} }))
	l, l2, f, f2 := kept[0].(series), kept[1].(series), kept[2].(fixes), kept[3].(fixes)
	var all sync.WaitGroup
	got := make([]string, 8)
	for i := range got {
		all.Go(func() {
			for range 50 {
				got[i] = fmt.Sprint(everyCall(l, l2, f, f2, api.Window{From: 2, To: 9}, api.Fraction{Num: 1, Den: 2}, 2, 5, "1 5 good\n"))
			}
		})
	}
	all.Wait()
	for _, s := range got {
		same(t, "at once", s, want)
	}
}

func TestZ9Z10Lines(t *testing.T) {
	for text, want := range map[string]string{
		"1 -5 good\n2 0 bad\n": "[{1 -5 0} {2 0 2}] 0 0",
		"1 5 good":             "[] 0 9",
		"1 5 good\n2 5 good":   "[] 1 9",
		"1 5 good\r\n":         "[] 0 9",
		"1\u00a05 good\n":      "[] 0 9",
		"1\t5 good\n":          "[] 0 9",
		"1 -0 good\n":          "[] 0 9",
		"1 05 good\n":          "[] 0 9",
	} {
		l, line, e := sample.Read(text)
		same(t, fmt.Sprintf("%q", text), fmt.Sprint(l, line, int(e)), want)
	}
}

func TestZ11MomentsAndKeys(t *testing.T) {
	for at, want := range map[int]api.Errno{0: api.OK, api.End - 1: api.OK, -1: api.ErrArg, api.End: api.ErrArg} {
		same(t, fmt.Sprint("a sample at ", at), sample.CheckSample(good(at, 0)), want)
		same(t, fmt.Sprint("a fix of ", at), sample.CheckFixes(fixes{remove("ann", 1, 0, at)}), want)
		same(t, fmt.Sprint("a fix made at ", at), sample.CheckFixes(fixes{remove("ann", 1, at, 0)}), want)
		same(t, fmt.Sprint("as of ", at), second(sample.Fixed(nil, nil, at)), want)
		same(t, fmt.Sprint("from ", at), second(sample.Changes(nil, nil, at, 0)), want)
		same(t, fmt.Sprint("to ", at), second(sample.Changes(nil, nil, 0, at)), want)
	}
	for by, want := range map[string]api.Errno{
		"a": api.OK, "a-b_9": api.OK, strings.Repeat("z", api.MaxName): api.OK,
		"": api.ErrName, "9a": api.ErrName, "aB": api.ErrName, "a b": api.ErrName, "é": api.ErrName, strings.Repeat("z", api.MaxName+1): api.ErrName,
	} {
		same(t, "by "+by, sample.CheckFixes(fixes{remove(by, 1, 0, 0)}), want)
	}
}
