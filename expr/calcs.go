package expr

import (
	"maps"
	"slices"
	"strings"

	"plantlog/api"
	"plantlog/basic"
)

// network is calculated tags with their expressions.
type network map[string]expression

// connect returns the network of calculated tags, if nothing is wrong with them.
func connect(c []api.Calc) (network, api.Errno) {
	if len(c) > api.MaxCalcs {
		return nil, api.ErrLarge
	}
	n := network{}
	for i, x := range c {
		if !basic.Key(x.Tag) || strings.Contains(x.Tag, "-") || operandsOf(x.Tag) > 0 {
			return nil, api.ErrName
		}
		if i > 0 && x.Tag <= c[i-1].Tag {
			return nil, api.ErrOrder
		}
		y, _, e := parse(x.Expr)
		if e != api.OK {
			return nil, e
		}
		n[x.Tag] = y
	}
	return n, api.OK
}

// names returns the calculated tags, rising.
func (n network) names() []string { return slices.Sorted(maps.Keys(n)) }

func (n network) calculated(tag string) bool {
	_, ok := n[tag]
	return ok
}

// order returns the calculated tags in the order in which they can be evaluated. Those of cycles, and those that depend on them, cannot be: they are left out.
func (n network) order() []string {
	names, done := n.names(), map[string]bool{}
	missing := func(x shifted) bool { return n.calculated(x.tag) && !done[x.tag] }
	possible := func(name string) bool {
		return !done[name] && !slices.ContainsFunc(n[name].tags, missing)
	}
	var order []string
	for {
		i := slices.IndexFunc(names, possible)
		if i < 0 {
			return order
		}
		done[names[i]] = true
		order = append(order, names[i])
	}
}

func (n network) loops() bool { return len(n.order()) < len(n) }

// cycle returns the least one of the shortest cycles that begin with a name. Each path is continued before all longer ones, and before all greater ones of its length; so the first one that leads back is the least one.
func (n network) cycle(name string) []string {
	seen := map[string]bool{}
	for paths := [][]string{{name}}; len(paths) > 0; paths = paths[1:] {
		path := paths[0]
		for _, x := range n[path[len(path)-1]].tags {
			if x.tag == name {
				return path
			}
			if !seen[x.tag] {
				seen[x.tag] = true
				paths = append(paths, append(slices.Clone(path), x.tag))
			}
		}
	}
	return nil
}

// CheckCalcs says what is wrong with calculated tags.
func CheckCalcs(c []api.Calc) api.Errno {
	_, e := connect(c)
	return e
}

// Order returns an order in which calculated tags can be evaluated.
func Order(c []api.Calc) ([]string, api.Errno) {
	n, e := connect(c)
	if e != api.OK {
		return nil, e
	}
	order := n.order()
	if len(order) < len(n) {
		return nil, api.ErrLoop
	}
	return order, api.OK
}

// Cycle returns a shortest cycle.
func Cycle(c []api.Calc) ([]string, api.Errno) {
	n, e := connect(c)
	if e != api.OK {
		return nil, e
	}
	var shortest []string
	// The least name of the least cycle comes before the others of it, and these find no shorter one.
	for _, name := range n.names() {
		cycle := n.cycle(name)
		if shortest == nil || cycle != nil && len(cycle) < len(shortest) {
			shortest = cycle
		}
	}
	return shortest, api.OK
}

// Affects returns the calculated tags that depend on a tag.
func Affects(c []api.Calc, tag string) ([]string, api.Errno) {
	n, e := connect(c)
	switch {
	case e != api.OK:
		return nil, e
	case !basic.Key(tag):
		return nil, api.ErrName
	}
	names, affected := n.names(), map[string]bool{}
	for causes := []string{tag}; len(causes) > 0; causes = causes[1:] {
		isCause := func(x shifted) bool { return x.tag == causes[0] }
		for _, name := range names {
			if !affected[name] && slices.ContainsFunc(n[name].tags, isCause) {
				affected[name] = true
				causes = append(causes, name)
			}
		}
	}
	return slices.Sorted(maps.Keys(affected)), api.OK
}
