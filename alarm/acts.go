package alarm

import (
	"cmp"
	"strings"

	"plantlog/api"
	"plantlog/basic"
)

// CheckActs says what is wrong with acts.
func CheckActs(a []api.Act) api.Errno {
	if len(a) > api.MaxActs {
		return api.ErrLarge
	}
	for i, x := range a {
		if e := checkAct(x); e != api.OK {
			return e
		}
		if i > 0 && byNumber(a[i-1], x) >= 0 {
			return api.ErrOrder
		}
	}
	for i, x := range a {
		if i > 0 && x.By == a[i-1].By && x.At < a[i-1].At {
			return api.ErrOrder
		}
	}
	return api.OK
}

func checkAct(x api.Act) api.Errno {
	switch {
	case !basic.Key(x.By):
		return api.ErrName
	case !basic.Within(x.No, 1, api.MaxActs) || !basic.Moment(x.At):
		return api.ErrArg
	case !basic.Within(x.Kind, api.ActAck, api.ActRelease):
		return api.ErrKind
	case !basic.Key(x.Alarm):
		return api.ErrName
	case x.Kind == api.ActShelve && !basic.Within(x.Until, x.At+1, api.End):
		return api.ErrArg
	case x.Kind != api.ActShelve && x.Until != 0:
		return api.ErrForm
	}
	return api.OK
}

// byNumber compares two acts by what tells each one from all others.
func byNumber(x, y api.Act) int {
	return cmp.Or(strings.Compare(x.By, y.By), cmp.Compare(x.No, y.No))
}

// Merge returns the acts of both lists.
func Merge(a, b []api.Act) ([]api.Act, api.Errno) {
	if e := CheckActs(a); e != api.OK {
		return nil, e
	}
	if e := CheckActs(b); e != api.OK {
		return nil, e
	}
	var merged []api.Act
	conflict := false
	add := func(x api.Act) { merged = append(merged, x) }
	basic.Align(a, b, byNumber, add, func(x, y api.Act) {
		add(x)
		conflict = conflict || x != y
	})
	if conflict {
		return nil, api.ErrConflict
	}
	if e := CheckActs(merged); e != api.OK {
		return nil, e
	}
	return merged, api.OK
}
