package buffer

import (
	"slices"
	"sort"

	"plantlog/api"
	"plantlog/basic"
)

// CheckClock says what is wrong with a clock.
func CheckClock(c []api.Clock) api.Errno {
	if len(c) > api.MaxPackets {
		return api.ErrLarge
	}
	for i, x := range c {
		if !basic.Moment(x.Node) || !basic.Moment(x.Server) || basic.Distance(x.Node, x.Server) > api.MaxSkew {
			return api.ErrArg
		}
		if i > 0 && (x.Node <= c[i-1].Node || x.Server <= c[i-1].Server) {
			return api.ErrOrder
		}
	}
	return api.OK
}

// Corrected returns the server's time for a moment of a node's clock.
func Corrected(c []api.Clock, at int) (int, api.Errno) {
	if e := CheckClock(c); e != api.OK {
		return 0, e
	}
	if !basic.Moment(at) {
		return 0, api.ErrArg
	}
	return corrected(c, at), api.OK
}

func corrected(c []api.Clock, at int) int {
	return min(max(at+behind(c, at), 0), api.End-1)
}

// behind returns by how much a node's clock is behind that of the server. To interpolate this, and not the server's time, keeps all products below the greatest int.
func behind(c []api.Clock, at int) int {
	i := sort.Search(len(c), func(i int) bool { return c[i].Node >= at })
	switch {
	case len(c) == 0:
		return 0
	case i == 0:
		return difference(c[0]).Value
	case i == len(c):
		return difference(c[i-1]).Value
	}
	return basic.Floor(basic.OnLine(difference(c[i-1]), difference(c[i]), at))
}

// difference returns by how much a clock is behind, as a value at a moment of this clock.
func difference(x api.Clock) api.Sample {
	return api.Sample{At: x.Node, Value: x.Server - x.Node}
}

// Stored returns the series of a tag, and the arrivals that are not stored.
func Stored(l []api.Arrival, clocks []api.NodeClock, tag string) ([]api.Sample, []int, api.Errno) {
	if e := checkStored(l, clocks, tag); e != api.OK {
		return nil, nil, e
	}
	var stored []api.Sample
	var left []int
	taken := map[int]bool{}
	first, correct := newcomers(), correction(clocks)
	for i, x := range l {
		if x.Packet.Tag != tag || !first(x) {
			continue
		}
		y := correct(x)
		if taken[y.At] {
			left = append(left, i)
			continue
		}
		taken[y.At] = true
		stored = append(stored, y)
	}
	slices.SortFunc(stored, basic.ByMoment)
	return stored, left, api.OK
}

func checkStored(l []api.Arrival, clocks []api.NodeClock, tag string) api.Errno {
	if e := CheckArrivals(l); e != api.OK {
		return e
	}
	if e := checkClocks(clocks); e != api.OK {
		return e
	}
	if !basic.Key(tag) {
		return api.ErrName
	}
	return api.OK
}

func checkClocks(clocks []api.NodeClock) api.Errno {
	node := func(x api.NodeClock) string { return x.Node }
	return basic.CheckKeyed(clocks, api.MaxNodes, node, func(x api.NodeClock) api.Errno { return CheckClock(x.Clock) })
}

// correction returns a function that returns the sample of an arrival at the server's time.
func correction(clocks []api.NodeClock) func(x api.Arrival) api.Sample {
	of := map[string][]api.Clock{}
	for _, x := range clocks {
		of[x.Node] = x.Clock
	}
	return func(x api.Arrival) api.Sample {
		y := x.Packet.Sample
		y.At = corrected(of[x.Node], y.At)
		return y
	}
}
