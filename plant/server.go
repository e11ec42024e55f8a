package plant

import (
	"cmp"
	"slices"
	"strings"

	"plantlog/alarm"
	"plantlog/api"
	"plantlog/basic"
	"plantlog/buffer"
	"plantlog/sample"
)

// CheckServer says what is wrong with a server.
func CheckServer(b api.Server) api.Errno {
	if e := CheckSite(b.Site); e != api.OK {
		return e
	}
	return checkKnown(b)
}

// checkKnown says what is wrong with what a server knows, beside its site.
func checkKnown(b api.Server) api.Errno {
	if e := buffer.CheckArrivals(b.Arrivals); e != api.OK {
		return e
	}
	tag := func(x api.TagFixes) string { return x.Tag }
	if e := basic.CheckKeyed(b.Fixes, api.MaxTags, tag, func(x api.TagFixes) api.Errno { return sample.CheckFixes(x.Fixes) }); e != api.OK {
		return e
	}
	return alarm.CheckActs(b.Acts)
}

// Merge merges two servers.
func Merge(a, b api.Server) (api.Server, api.Errno) {
	if e := CheckServer(a); e != api.OK {
		return api.Server{}, e
	}
	if e := CheckServer(b); e != api.OK {
		return api.Server{}, e
	}
	if !sameSite(a.Site, b.Site) {
		return api.Server{}, api.ErrConflict
	}
	merged, e := joined(a, b)
	if e != api.OK {
		return api.Server{}, e
	}
	return copyOf(merged), api.OK
}

// joined merges what two servers of one site know. It shares memory with them.
func joined(a, b api.Server) (api.Server, api.Errno) {
	arrivals, e := buffer.Merge(a.Arrivals, b.Arrivals)
	if e != api.OK {
		return api.Server{}, e
	}
	fixes, e := joinedFixes(a.Fixes, b.Fixes)
	if e != api.OK {
		return api.Server{}, e
	}
	acts, e := alarm.Merge(a.Acts, b.Acts)
	switch {
	case e != api.OK:
		return api.Server{}, e
	case len(fixes) > api.MaxTags:
		return api.Server{}, api.ErrLarge
	}
	return api.Server{Site: a.Site, Arrivals: arrivals, Fixes: fixes, Acts: acts}, api.OK
}

// joinedFixes merges the fixes of each tag; the error is that of the first tag that has one.
func joinedFixes(a, b []api.TagFixes) ([]api.TagFixes, api.Errno) {
	var list []api.TagFixes
	wrong := api.OK
	add := func(x api.TagFixes) { list = append(list, x) }
	byTag := func(x, y api.TagFixes) int { return strings.Compare(x.Tag, y.Tag) }
	basic.Align(a, b, byTag, add, func(x, y api.TagFixes) {
		fixes, e := sample.MergeFixes(x.Fixes, y.Fixes)
		wrong = cmp.Or(wrong, e)
		add(api.TagFixes{Tag: x.Tag, Fixes: fixes})
	})
	return list, wrong
}

func sameSite(a, b api.Site) bool {
	return slices.Equal(a.Assets, b.Assets) &&
		slices.EqualFunc(a.Templates, b.Templates, sameTemplate) &&
		slices.EqualFunc(a.Clocks, b.Clocks, sameClock)
}

func sameTemplate(x, y api.Template) bool {
	return x.Key == y.Key && slices.Equal(x.Tags, y.Tags) && slices.Equal(x.Calcs, y.Calcs) && slices.Equal(x.Alarms, y.Alarms)
}

func sameClock(x, y api.NodeClock) bool {
	return x.Node == y.Node && slices.Equal(x.Clock, y.Clock)
}

// copyOf returns a copy of a server in memory of its own.
func copyOf(b api.Server) api.Server {
	return api.Server{
		Site:     copyOfSite(b.Site),
		Arrivals: slices.Clone(b.Arrivals),
		Fixes: copies(b.Fixes, func(x *api.TagFixes) {
			x.Fixes = slices.Clone(x.Fixes)
		}),
		Acts: slices.Clone(b.Acts),
	}
}

func copyOfSite(s api.Site) api.Site {
	return api.Site{
		Templates: copies(s.Templates, func(x *api.Template) {
			x.Tags, x.Calcs, x.Alarms = slices.Clone(x.Tags), slices.Clone(x.Calcs), slices.Clone(x.Alarms)
		}),
		Assets: slices.Clone(s.Assets),
		Clocks: copies(s.Clocks, func(x *api.NodeClock) {
			x.Clock = slices.Clone(x.Clock)
		}),
	}
}

// copies returns a copy of a list; detach gives one of its elements lists of its own.
func copies[T any](l []T, detach func(x *T)) []T {
	l = slices.Clone(l)
	for i := range l {
		detach(&l[i])
	}
	return l
}
