package expr

import (
	"maps"
	"slices"

	"plantlog/api"
	"plantlog/basic"
)

const (
	mostShifted    = 1_000              // shifted tags that are evaluated
	mostRemembered = 2 * api.MaxSamples // values of a calculated tag that are kept while it is evaluated
)

// alone returns the network of an expression that is not that of a calculated tag: it gets the empty name, which no tag of an expression has.
func alone(x expression) network { return network{"": x} }

// sources returns the sources of all calculated tags of a network without cycles.
func (n network) sources(samples map[string][]api.Sample) map[string]source {
	all := map[string]source{}
	bind := func(x shifted) source {
		of, calculated := all[x.tag]
		if !calculated {
			of = recorded(samples[x.tag])
		}
		return of.before(x.by)
	}
	for _, name := range n.order() {
		all[name] = remembered(n[name].root.compile(bind))
	}
	return all
}

// before returns what a source returned some milliseconds before; there was nothing before the moment 0.
func (s source) before(by int) source {
	return func(at int) value {
		if at < by {
			return value{quality: api.Bad}
		}
		return s(at - by)
	}
}

// recorded returns the source of a tag that is not calculated.
func recorded(l []api.Sample) source {
	return func(at int) value {
		next := basic.Position(l, at+1)
		if next == 0 {
			return value{quality: api.Bad}
		}
		return value{l[next-1].Value, l[next-1].Quality}
	}
}

// remembered returns the source of a calculated tag. It keeps values, as otherwise a tag would be evaluated once for each way in which others depend on it: there can be more ways than could ever be gone.
func remembered(s source) source {
	known := map[int]value{}
	return func(at int) value {
		if v, ok := known[at]; ok {
			return v
		}
		v := s(at).within(api.MaxValue)
		if len(known) == mostRemembered {
			clear(known)
		}
		known[at] = v
		return v
	}
}

// needed returns the shifted tags that have to be known to evaluate some calculated tags; false if more than mostShifted of them are calculated ones. The network has no cycles.
func (n network) needed(names []string) ([]shifted, bool) {
	var list []shifted
	seen, count := map[shifted]bool{}, 0
	var visit func(x shifted)
	visit = func(x shifted) {
		if seen[x] || count > mostShifted {
			return
		}
		seen[x] = true
		list = append(list, x)
		if n.calculated(x.tag) {
			count++
		}
		for _, y := range n[x.tag].tags {
			visit(shifted{y.tag, x.by + y.by})
		}
	}
	for _, name := range names {
		visit(shifted{tag: name})
	}
	return list, count <= mostShifted
}

// moments returns the first moment of a window, and those in it at which samples come to shifted tags that are not calculated; false if there are more than most.
func (n network) moments(list []shifted, samples map[string][]api.Sample, w api.Window, most int) ([]int, bool) {
	found := map[int]bool{}
	if w.From < w.To {
		found[w.From] = true
	}
	for _, x := range list {
		if n.calculated(x.tag) {
			continue
		}
		l := samples[x.tag]
		for _, y := range l[basic.Position(l, w.From-x.by):basic.Position(l, w.To-x.by)] {
			found[y.At+x.by] = true
			if len(found) > most {
				return nil, false
			}
		}
	}
	return slices.Sorted(maps.Keys(found)), true
}
