package plant

import (
	"slices"

	"plantlog/alarm"
	"plantlog/api"
	"plantlog/basic"
	"plantlog/buffer"
	"plantlog/expr"
	"plantlog/sample"
)

// view is what a server knows at a moment.
type view struct {
	api.Server
	plan       plan
	at         int
	recordings []api.Series // of all of Tags, once they were asked for
}

// viewOf returns what a valid server knows at a moment.
func viewOf(b api.Server, at int) *view {
	return &view{Server: b, plan: planOf(b.Site), at: at}
}

// series returns the samples of a tag that there is.
func (v *view) series(tag string) ([]api.Sample, api.Errno) {
	if v.plan.calculates(tag) {
		return v.calculated(tag)
	}
	return v.recorded(tag)
}

func (v *view) calculated(tag string) ([]api.Sample, api.Errno) {
	// The recordings are kept, as many calculated tags may be asked for.
	if v.recordings == nil {
		all, e := v.seriesOf(v.plan.tags)
		if e != api.OK {
			return nil, e
		}
		v.recordings = all
	}
	return expr.Run(v.plan.calcs, v.recordings, tag, api.Window{From: 0, To: v.at + 1})
}

func (v *view) recorded(tag string) ([]api.Sample, api.Errno) {
	l, _, e := buffer.Stored(v.arrived(tag), v.Site.Clocks, tag)
	if e != api.OK {
		return nil, e
	}
	return sample.Fixed(l, v.fixes(tag), v.at)
}

// arrived returns the arrivals of a tag. Those of other tags change nothing of what is stored, as a packet that arrives again has the same tag; to leave them out saves time.
func (v *view) arrived(tag string) []api.Arrival {
	var list []api.Arrival
	for _, x := range v.Arrivals {
		if x.At <= v.at && x.Packet.Tag == tag {
			list = append(list, x)
		}
	}
	return list
}

func (v *view) fixes(tag string) []api.Fix {
	for _, x := range v.Fixes {
		if x.Tag == tag {
			return x.Fixes
		}
	}
	return nil
}

func (v *view) seriesOf(tags []string) ([]api.Series, api.Errno) {
	var list []api.Series
	for _, tag := range tags {
		l, e := v.series(tag)
		if e != api.OK {
			return nil, e
		}
		list = append(list, api.Series{Tag: tag, Samples: l})
	}
	return list, api.OK
}

// value returns the last sample of a tag that there is; false if it has none.
func (v *view) value(tag string) (api.Sample, bool, api.Errno) {
	l, e := v.series(tag)
	next := basic.Position(l, v.at+1)
	if next == 0 {
		return api.Sample{}, false, e
	}
	return l[next-1], true, api.OK
}

// standing returns the alarms that operators look at.
func (v *view) standing() ([]api.Standing, api.Errno) {
	series, e := v.seriesOf(v.watched())
	if e != api.OK {
		return nil, e
	}
	acts := slices.DeleteFunc(slices.Clone(v.Acts), func(x api.Act) bool { return x.At > v.at })
	return alarm.Standing(v.plan.alarms, series, acts, v.at)
}

// watched returns the tags of alarms, as far as there are such tags, rising.
func (v *view) watched() []string {
	var tags []string
	for _, x := range v.plan.alarms {
		if v.plan.has(x.Tag) {
			tags = append(tags, x.Tag)
		}
	}
	slices.Sort(tags)
	return slices.Compact(tags)
}

// sum adds up the values of assets: it returns the sum, of how many values it is, and how many others there are.
func (v *view) sum(assets []string, pattern string) (int, int, int, api.Errno) {
	total, count, others := 0, 0, 0
	for _, asset := range assets {
		tag := expand(pattern, asset)
		if !v.plan.has(tag) {
			continue
		}
		x, ok, e := v.value(tag)
		switch {
		case e != api.OK:
			return 0, 0, 0, e
		case !ok || x.Quality == api.Bad:
			others++
		default:
			total += x.Value
			count++
		}
	}
	return total, count, others, api.OK
}
