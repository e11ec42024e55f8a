package query

import (
	"plantlog/api"
	"plantlog/basic"
	"plantlog/sample"
)

// ValueAt returns the value at a moment.
func ValueAt(l []api.Sample, stepped bool, at int) (api.Point, bool, api.Errno) {
	if e := sample.CheckSeries(l); e != api.OK {
		return api.Point{}, false, e
	}
	if !basic.Moment(at) {
		return api.Point{}, false, api.ErrArg
	}
	x, ok := valueAt(l, stepped, at)
	return x, ok, api.OK
}

func valueAt(l []api.Sample, stepped bool, at int) (api.Point, bool) {
	next := basic.Position(l, at+1)
	if next == 0 {
		return api.Point{}, false
	}
	p := l[next-1]
	x := api.Point{At: at, Value: api.Fraction{Num: p.Value, Den: 1}, Quality: p.Quality}
	if stepped || p.At == at || p.Quality == api.Bad || next == len(l) || l[next].Quality == api.Bad {
		return x, true
	}
	x.Value = basic.OnLine(p, l[next], at)
	x.Quality = max(p.Quality, l[next].Quality)
	return x, true
}

// Points returns values at equal distances.
func Points(l []api.Sample, stepped bool, w api.Window, every int) ([]api.Point, api.Errno) {
	if e := checkParts(l, w, every); e != api.OK {
		return nil, e
	}
	var points []api.Point
	for part := range parts(w, every) {
		if x, ok := valueAt(l, stepped, part.From); ok {
			points = append(points, x)
		}
	}
	return points, api.OK
}

// Change returns by how much a value changes over a window.
func Change(l []api.Sample, stepped bool, w api.Window) (int, bool, api.Errno) {
	e := checkWithin(w, l)
	switch {
	case e != api.OK:
		return 0, false, e
	case w.To == api.End:
		return 0, false, api.ErrArg
	}
	from, fromOK := valueAt(l, stepped, w.From)
	to, toOK := valueAt(l, stepped, w.To)
	if !fromOK || !toOK || from.Quality == api.Bad || to.Quality == api.Bad {
		return 0, false, api.OK
	}
	return basic.Thousandths(to.Value) - basic.Thousandths(from.Value), true, api.OK
}
