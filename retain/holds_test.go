package retain_test

import (
	"fmt"
	"math"
	"math/rand"
	"strings"
	"testing"

	"plantlog/api"
	"plantlog/retain"
)

var longKey = strings.Repeat("k", api.MaxName)

// wrongHolds has wrong lists of holds.
var wrongHolds = map[string]struct {
	h    holds
	want api.Errno
}{
	"too many":                   {make(holds, api.MaxHolds+1), api.ErrLarge},
	"as many as can be, wrong":   {make(holds, api.MaxHolds), api.ErrName},
	"no Key":                     {holds{hold("", "t", 0, 1, 0, 1)}, api.ErrName},
	"a Key that is none":         {holds{hold("A", "t", 0, 1, 0, 1)}, api.ErrName},
	"a Key too long":             {holds{hold(longKey+"k", "t", 0, 1, 0, 1)}, api.ErrName},
	"a Tag that is no key":       {holds{hold("a", "T", 0, 1, 0, 1)}, api.ErrName},
	"a Tag that is a blank":      {holds{hold("a", " ", 0, 1, 0, 1)}, api.ErrName},
	"a Tag too long":             {holds{hold("a", longKey+"k", 0, 1, 0, 1)}, api.ErrName},
	"a Tag that is none, second": {holds{hold("a", "", 0, 1, 0, 1), hold("b", "1", 0, 1, 0, 1)}, api.ErrName},
	"the same Key":               {holds{hold("a", "t", 0, 1, 0, 1), hold("a", "u", 5, 6, 7, 8)}, api.ErrOrder},
	"a lesser Key":               {holds{hold("b", "t", 0, 1, 0, 1), hold("a", "t", 0, 1, 0, 1)}, api.ErrOrder},
	"a lesser Key, third":        {holds{hold("a", "", 0, 1, 0, 1), hold("c", "", 0, 1, 0, 1), hold("b", "", 0, 1, 0, 1)}, api.ErrOrder},
	"before all moments":         {holds{hold("a", "t", -1, 1, 0, 1)}, api.ErrArg},
	"no moments":                 {holds{hold("a", "t", 5, 5, 0, 1)}, api.ErrArg},
	"a wrong end":                {holds{hold("a", "t", 5, 4, 0, 1)}, api.ErrArg},
	"after all moments":          {holds{hold("a", "t", 0, api.End+1, 0, 1)}, api.ErrArg},
	"at the end":                 {holds{hold("a", "t", api.End, api.End, 0, 1)}, api.ErrArg},
	"the least ints":             {holds{hold("a", "t", math.MinInt, math.MinInt, 0, 1)}, api.ErrArg},
	"the least To":               {holds{hold("a", "t", 0, math.MinInt, 0, 1)}, api.ErrArg},
	"the greatest ints":          {holds{hold("a", "t", math.MaxInt, math.MaxInt, 0, 1)}, api.ErrArg},
	"made before all moments":    {holds{hold("a", "t", 0, 1, -1, 1)}, api.ErrArg},
	"never in force":             {holds{hold("a", "t", 0, 1, 5, 5)}, api.ErrArg},
	"ended before it was made":   {holds{hold("a", "t", 0, 1, 5, 4)}, api.ErrArg},
	"ended after all moments":    {holds{hold("a", "t", 0, 1, 0, api.End+1)}, api.ErrArg},
	"made at the end":            {holds{hold("a", "t", 0, 1, api.End, api.End)}, api.ErrArg},
	"the least Made":             {holds{hold("a", "t", 0, 1, math.MinInt, 1)}, api.ErrArg},
	"the least Ends":             {holds{hold("a", "t", 0, 1, 0, math.MinInt)}, api.ErrArg},
	"the greatest Ends":          {holds{hold("a", "t", 0, 1, 0, math.MaxInt)}, api.ErrArg},
	"no Key, no moments":         {holds{hold("", "t", 5, 5, 0, 1)}, api.ErrName},
	"the same Key, no moments":   {holds{hold("a", "t", 0, 1, 0, 1), hold("a", "t", 5, 5, 0, 1)}, api.ErrOrder},
	"no moments, the same Key":   {holds{hold("a", "t", 5, 5, 0, 1), hold("a", "t", 0, 1, 0, 1)}, api.ErrArg},
	"the same Key, then no Key":  {holds{hold("a", "t", 0, 1, 0, 1), hold("a", "t", 0, 1, 0, 1), hold("", "t", 0, 1, 0, 1)}, api.ErrOrder},
	"a lesser Key, no Tag":       {holds{hold("b", "t", 0, 1, 0, 1), hold("a", "T", 0, 1, 0, 1)}, api.ErrName},
}

// wrongTags are strings that are no keys.
var wrongTags = []string{"", "T", "1", "a b", "t\n", "ä", longKey + "k"}

// manyHolds returns as many holds as can be.
func manyHolds() holds {
	h := make(holds, api.MaxHolds)
	for i := range h {
		h[i] = hold(fmt.Sprintf("h%03d", i), "", i, i+2, 0, api.End)
	}
	return h
}

func TestP92CheckHolds(t *testing.T) {
	for name, c := range wrongHolds {
		same(t, name, retain.CheckHolds(c.h), c.want)
	}
	for name, h := range map[string]holds{
		"none":              nil,
		"one":               {hold("a", "t", 5, 9, 7, 20)},
		"of all tags":       {hold("a", "", 5, 9, 7, 20)},
		"all moments":       {hold("a", "t", 0, api.End, 0, api.End)},
		"the last moment":   {hold("a", "t", api.End-1, api.End, api.End-1, api.End)},
		"long keys":         {hold(longKey, longKey, 0, 1, 0, 1)},
		"made before":       {hold("a", "t", 100, 200, 5, 6)},
		"two":               {hold("a", "t", 5, 9, 7, 20), hold("b", "t", 5, 9, 7, 20)},
		"as many as can be": manyHolds(),
	} {
		same(t, name, retain.CheckHolds(h), api.OK)
	}
}

func TestP92Held(t *testing.T) {
	h := holds{hold("a", "t", 10, 20, 100, 200), hold("b", "", 15, 30, 150, 300), hold("c", "u", 0, 50, 0, 1000), hold("d", "t", 10, 20, 400, 500)}
	for _, c := range []struct {
		tag        string
		moment, at int
		want       bool
	}{
		{"t", 10, 100, true}, {"t", 10, 99, false}, {"t", 9, 100, false}, {"t", 19, 199, true}, {"t", 10, 200, false},
		{"t", 20, 100, false}, {"t", 20, 150, true}, {"t", 20, 149, false}, {"t", 29, 299, true}, {"t", 30, 299, false}, {"t", 29, 300, false},
		{"t", 15, 299, true}, {"t", 14, 299, false}, {"t", 14, 400, true}, {"t", 14, 399, false}, {"t", 14, 500, false}, {"t", 14, 499, true},
		{"u", 0, 0, true}, {"u", 49, 49, true}, {"u", 50, 50, false}, {"u", 0, 999, true}, {"u", 0, 1000, false}, {"u", 12, 450, true},
		{"v", 12, 160, false}, {"v", 15, 150, true}, {"v", 15, 149, false}, {"v", 29, 200, true}, {"v", 30, 200, false},
		{"t", 0, api.End - 1, false}, {"t", api.End - 1, api.End - 1, false},
	} {
		got, e := retain.Held(h, c.tag, c.moment, c.at)
		same(t, fmt.Sprintf("%s of %d at %d", c.tag, c.moment, c.at), []any{got, e}, []any{c.want, api.OK})
	}
	got, e := retain.Held(nil, "t", 5, 5)
	same(t, "no holds", []any{got, e}, []any{false, api.OK})
	got, e = retain.Held(holds{hold("a", "t", 0, api.End, 0, api.End)}, "t", api.End-1, api.End-1)
	same(t, "the last moment", []any{got, e}, []any{true, api.OK})
	got, e = retain.Held(holds{hold("a", longKey, 0, api.End, 0, api.End)}, longKey, 0, 0)
	same(t, "a long key", []any{got, e}, []any{true, api.OK})
}

// wrongTimes are moments with a time at which their data cannot be asked for.
var wrongTimes = [][2]int{
	{-1, 5}, {api.End, 5}, {5, -1}, {5, api.End}, {6, 5}, {api.End - 1, api.End - 2}, {api.End - 1, api.End}, {api.End, api.End}, {-1, -1}, {1, 0},
	{math.MinInt, 5}, {math.MaxInt, 5}, {5, math.MinInt}, {5, math.MaxInt}, {math.MinInt, math.MaxInt}, {math.MaxInt, math.MaxInt}, {math.MinInt, math.MinInt},
}

func TestP92HeldErrors(t *testing.T) {
	for name, c := range wrongHolds {
		got, e := retain.Held(c.h, "", -1, -1)
		same(t, name, []any{got, e}, []any{false, c.want})
	}
	h := holds{hold("a", "", 0, api.End, 0, api.End)}
	for _, tag := range wrongTags {
		got, e := retain.Held(h, tag, -1, -1)
		same(t, fmt.Sprintf("tag %q", tag), []any{got, e}, []any{false, api.ErrName})
	}
	for _, c := range wrongTimes {
		got, e := retain.Held(h, "t", c[0], c[1])
		same(t, fmt.Sprint(c), []any{got, e}, []any{false, api.ErrArg})
	}
}

// someHolds returns up to n holds, for the tags t, u and all, of short times.
func someHolds(r *rand.Rand, n, long int) holds {
	var h holds
	for i := range r.Intn(n + 1) {
		from, made := r.Intn(long), r.Intn(long)
		to, ends := from+1+r.Intn(15), made+1+r.Intn(30)
		tag := []string{"", "t", "t", "u"}[r.Intn(4)]
		h = append(h, hold(fmt.Sprintf("h%02d", i), tag, from, to, made, ends))
	}
	return h
}

// holdsIt reports whether a hold holds data of a moment at a time, as the document says it.
func holdsIt(h holds, tag string, moment, at int) bool {
	for _, x := range h {
		if (x.Tag == "" || x.Tag == tag) && x.Time.From <= moment && moment < x.Time.To && x.Made <= at && at < x.Ends {
			return true
		}
	}
	return false
}

func TestP92HeldAsTheDocumentSays(t *testing.T) {
	r := rand.New(rand.NewSource(113))
	for range 300 {
		h := someHolds(r, 5, 30)
		for range 100 {
			moment := r.Intn(40)
			at := moment + r.Intn(30)
			got, e := retain.Held(h, "t", moment, at)
			same(t, fmt.Sprintf("%+v %d at %d", h, moment, at), []any{got, e}, []any{holdsIt(h, "t", moment, at), api.OK})
		}
	}
}
