package plant

import (
	"plantlog/api"
	"plantlog/basic"
	"plantlog/query"
)

const hour = 3_600_000

// The functions with small names take servers that are valid.

// Series returns the samples of a tag as they are known at a moment.
func Series(b api.Server, tag string, at int) ([]api.Sample, api.Errno) {
	if e := CheckServer(b); e != api.OK {
		return nil, e
	}
	v, e := viewOfTag(b, tag, at)
	if e != api.OK {
		return nil, e
	}
	return v.series(tag)
}

// viewOfTag returns what is known at a moment, if there is a tag.
func viewOfTag(b api.Server, tag string, at int) (*view, api.Errno) {
	v := viewOf(b, at)
	switch {
	case !v.plan.has(tag):
		return nil, api.ErrNone
	case !basic.Moment(at):
		return nil, api.ErrArg
	}
	return v, api.OK
}

// Value returns the last sample of a tag.
func Value(b api.Server, tag string, at int) (api.Sample, bool, api.Errno) {
	if e := CheckServer(b); e != api.OK {
		return api.Sample{}, false, e
	}
	return value(b, tag, at)
}

func value(b api.Server, tag string, at int) (api.Sample, bool, api.Errno) {
	v, e := viewOfTag(b, tag, at)
	if e != api.OK {
		return api.Sample{}, false, e
	}
	return v.value(tag)
}

// Standing returns the alarms that operators look at.
func Standing(b api.Server, at int) ([]api.Standing, api.Errno) {
	if e := CheckServer(b); e != api.OK {
		return nil, e
	}
	if !basic.Moment(at) {
		return nil, api.ErrArg
	}
	return viewOf(b, at).standing()
}

// Sum adds up the values of an asset and all assets within it.
func Sum(b api.Server, asset, pattern string, at int) (int, int, int, api.Errno) {
	if e := CheckServer(b); e != api.OK {
		return 0, 0, 0, e
	}
	return sum(b, asset, pattern, at)
}

func sum(b api.Server, asset, pattern string, at int) (int, int, int, api.Errno) {
	assets := under(b.Site, asset)
	switch {
	case len(assets) == 0:
		return 0, 0, 0, api.ErrNone
	case !isPattern(pattern):
		return 0, 0, 0, api.ErrForm
	case !basic.Moment(at):
		return 0, 0, 0, api.ErrArg
	}
	return viewOf(b, at).sum(assets, pattern)
}

// Report returns the hours of a day.
func Report(b api.Server, tag string, day int) ([]api.Bucket, api.Errno) {
	if e := CheckServer(b); e != api.OK {
		return nil, e
	}
	at := -1 // no moment, if there is no such day
	if basic.Within(day, 0, api.MaxDay) {
		at = (day+1)*api.DayLong - 1
	}
	v, e := viewOfTag(b, tag, at)
	if e != api.OK {
		return nil, e
	}
	l, e := v.series(tag)
	if e != api.OK {
		return nil, e
	}
	return query.Buckets(l, api.Window{From: day * api.DayLong, To: at + 1}, hour)
}

// Revised returns the moments at which what is known of a tag has changed.
func Revised(b api.Server, tag string, from, to int) ([]int, api.Errno) {
	if e := CheckServer(b); e != api.OK {
		return nil, e
	}
	first, e := viewOfTag(b, tag, from)
	switch {
	case e != api.OK:
		return nil, e
	case !basic.Within(to, from, api.End-1):
		return nil, api.ErrArg
	}
	before, e := first.series(tag)
	if e != api.OK {
		return nil, e
	}
	after, e := viewOf(b, to).series(tag)
	if e != api.OK {
		return nil, e
	}
	return basic.Differing(before[:basic.Position(before, from)], after[:basic.Position(after, from)]), api.OK
}
