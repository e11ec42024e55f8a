package expr

import (
	"math"
	"strconv"

	"plantlog/api"
	"plantlog/basic"
	"plantlog/sample"
)

func checkSeries(series []api.Series) api.Errno {
	return basic.CheckAllSeries(series, sample.CheckSeries)
}

// checkMoment says what is wrong with series, then with a moment.
func checkMoment(series []api.Series, at int) api.Errno {
	e := checkSeries(series)
	if e == api.OK && !basic.Moment(at) {
		return api.ErrArg
	}
	return e
}

// sampled returns what a source returns at a moment as a sample.
func sampled(s source, at int) api.Sample {
	v := s(at)
	return api.Sample{At: at, Value: v.number, Quality: v.quality}
}

// evaluated returns the value of an expression at a moment.
func evaluated(x expression, series []api.Series, at int) api.Sample {
	return sampled(alone(x).sources(basic.ByTag(series))[""], at)
}

// Eval evaluates an expression at a moment.
func Eval(s string, series []api.Series, at int) (api.Sample, api.Errno) {
	x, _, e := parse(s)
	if e != api.OK {
		return api.Sample{}, e
	}
	if e := checkMoment(series, at); e != api.OK {
		return api.Sample{}, e
	}
	return evaluated(x, series, at), api.OK
}

// Constant returns the value of an expression without tags.
func Constant(s string) (int, bool, api.Errno) {
	x, _, e := parse(s)
	if e != api.OK {
		return 0, false, e
	}
	y := evaluated(x, nil, 0)
	if len(x.tags) > 0 || y.Quality != api.Good {
		return 0, false, api.OK
	}
	return y.Value, true, api.OK
}

// Values evaluates all calculated tags at a moment.
func Values(c []api.Calc, series []api.Series, at int) ([]api.Pair, api.Errno) {
	n, e := connect(c)
	switch {
	case e != api.OK:
		return nil, e
	case n.loops():
		return nil, api.ErrLoop
	}
	if e := checkMoment(series, at); e != api.OK {
		return nil, e
	}
	if _, ok := n.needed(n.names()); !ok {
		return nil, api.ErrFull
	}
	sources := n.sources(basic.ByTag(series))
	var pairs []api.Pair
	for _, name := range n.names() {
		v := sources[name](at)
		pairs = append(pairs, api.Pair{Name: name, Value: strconv.Itoa(v.number) + " " + basic.QualityWord(v.quality)})
	}
	return pairs, api.OK
}

// Moments returns when the value of an expression can change.
func Moments(s string, series []api.Series, w api.Window) ([]int, api.Errno) {
	x, _, e := parse(s)
	if e != api.OK {
		return nil, e
	}
	if e := checkSeries(series); e != api.OK {
		return nil, e
	}
	if !basic.Window(w) {
		return nil, api.ErrArg
	}
	moments, _ := alone(x).moments(x.tags, basic.ByTag(series), w, math.MaxInt)
	return moments, api.OK
}

// Run evaluates a calculated tag over a window.
func Run(c []api.Calc, series []api.Series, tag string, w api.Window) ([]api.Sample, api.Errno) {
	n, e := connect(c)
	if e != api.OK {
		return nil, e
	}
	if e := checkSeries(series); e != api.OK {
		return nil, e
	}
	switch {
	case n.loops():
		return nil, api.ErrLoop
	case !basic.Window(w):
		return nil, api.ErrArg
	case !n.calculated(tag):
		return nil, api.ErrNone
	}
	list, ok := n.needed([]string{tag})
	if !ok {
		return nil, api.ErrFull
	}
	samples := basic.ByTag(series)
	moments, ok := n.moments(list, samples, w, api.MaxSamples)
	if !ok {
		return nil, api.ErrLarge
	}
	return changes(n.sources(samples)[tag], moments), api.OK
}

// changes returns what a source returns at moments, without samples that differ from the one before in nothing but the moment.
func changes(s source, moments []int) []api.Sample {
	var l []api.Sample
	for _, at := range moments {
		x := sampled(s, at)
		if last := len(l) - 1; last < 0 || l[last].Value != x.Value || l[last].Quality != x.Quality {
			l = append(l, x)
		}
	}
	return l
}
