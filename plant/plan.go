package plant

import (
	"iter"
	"slices"
	"strings"

	"plantlog/alarm"
	"plantlog/api"
	"plantlog/basic"
	"plantlog/expr"
)

// mark stands for the key of an asset in what is expanded for it.
const mark = "%"

func isPattern(s string) bool { return strings.Contains(s, mark) }

func expand(pattern, asset string) string { return strings.ReplaceAll(pattern, mark, asset) }

// templatesOf returns the templates of a site by their keys.
func templatesOf(s api.Site) map[string]api.Template {
	templates := map[string]api.Template{}
	for _, x := range s.Templates {
		templates[x.Key] = x
	}
	return templates
}

// equipped goes through the assets of a site, each with its template.
func equipped(s api.Site) iter.Seq2[string, api.Template] {
	return func(yield func(asset string, x api.Template) bool) {
		templates := templatesOf(s)
		for _, x := range s.Assets {
			if !yield(x.Key, templates[x.Template]) {
				return
			}
		}
	}
}

// plan is what a site has, expanded for all its assets.
type plan struct {
	tags   []string    // those of Tags, rising
	calcs  []api.Calc  // by tag
	alarms []api.Alarm // by key
}

func planOf(s api.Site) plan {
	var p plan
	for asset, x := range equipped(s) {
		for _, y := range x.Tags {
			p.tags = append(p.tags, expand(y, asset))
		}
		for _, y := range x.Calcs {
			p.calcs = append(p.calcs, api.Calc{Tag: expand(y.Tag, asset), Expr: expand(y.Expr, asset)})
		}
		for _, y := range x.Alarms {
			y.Key, y.Tag, y.Parent = expand(y.Key, asset), expand(y.Tag, asset), expand(y.Parent, asset)
			p.alarms = append(p.alarms, y)
		}
	}
	slices.Sort(p.tags)
	slices.SortFunc(p.calcs, func(x, y api.Calc) int { return strings.Compare(x.Tag, y.Tag) })
	slices.SortStableFunc(p.alarms, func(x, y api.Alarm) int { return strings.Compare(x.Key, y.Key) })
	return p
}

// check says what is wrong with what a site has.
func (p plan) check() api.Errno {
	switch {
	case !all(p.tags, basic.Key):
		return api.ErrName
	case p.twice():
		return api.ErrTwice
	case len(p.tags) > api.MaxTags:
		return api.ErrLarge
	}
	// Order returns what CheckCalcs does, before it looks for loops.
	if _, e := expr.Order(p.calcs); e != api.OK {
		return e
	}
	return alarm.CheckAlarms(p.alarms)
}

// twice reports whether two tags are equal.
func (p plan) twice() bool {
	known := map[string]bool{}
	for _, x := range p.tags {
		known[x] = true
	}
	for _, x := range p.calcs {
		known[x.Tag] = true
	}
	return len(known) < len(p.tags)+len(p.calcs)
}

func (p plan) calculates(tag string) bool {
	return slices.ContainsFunc(p.calcs, func(x api.Calc) bool { return x.Tag == tag })
}

// has reports whether there is a tag.
func (p plan) has(tag string) bool {
	_, recorded := slices.BinarySearch(p.tags, tag)
	return recorded || p.calculates(tag)
}
