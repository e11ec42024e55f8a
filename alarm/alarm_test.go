package alarm_test

import (
	"fmt"
	"math"
	"math/rand"
	"slices"
	"strings"
	"testing"

	"plantlog/alarm"
	"plantlog/api"
)

// same compares as printed, so that an empty and a nil list are the same.
func same(t *testing.T, what string, got, want any) {
	t.Helper()
	if g, w := fmt.Sprintf("%+v", got), fmt.Sprintf("%+v", want); g != w {
		t.Errorf("%s: got %.400s, want %.400s", what, g, w)
	}
}

type (
	samples   = []api.Sample
	windows   = []api.Window
	alarms    = []api.Alarm
	series    = []api.Series
	acts      = []api.Act
	standings = []api.Standing
	names     = []string
)

func good(at, value int) api.Sample { return api.Sample{At: at, Value: value, Quality: api.Good} }

func uncertain(at, value int) api.Sample {
	return api.Sample{At: at, Value: value, Quality: api.Uncertain}
}

func bad(at int) api.Sample { return api.Sample{At: at, Quality: api.Bad} }

func window(from, to int) api.Window { return api.Window{From: from, To: to} }

// high returns an alarm on the tag t without deadband and delays.
func high(key string, limit int) api.Alarm {
	return api.Alarm{Key: key, Tag: "t", Kind: api.AlarmHigh, Limit: limit, Priority: 1}
}

// with returns an alarm in which something is changed.
func with(x api.Alarm, change func(x *api.Alarm)) api.Alarm {
	change(&x)
	return x
}

// child returns an alarm with a parent.
func child(x api.Alarm, parent string) api.Alarm {
	x.Parent = parent
	return x
}

// one returns the samples of one tag.
func one(tag string, l ...api.Sample) series { return series{{Tag: tag, Samples: l}} }

// manySamples returns a valid series of n samples, one each millisecond, that are 0 and 9 by turns.
func manySamples(n int) samples {
	l := make(samples, n)
	for i := range l {
		l[i] = good(i, i%2*9)
	}
	return l
}

// chain returns n alarms on tags of their own, each one the parent of the next one.
func chain(n int) alarms {
	l := make(alarms, n)
	for i := range l {
		l[i] = high(fmt.Sprintf("a%06d", i), 5)
		l[i].Tag = fmt.Sprintf("t%06d", i)
		if i > 0 {
			l[i].Parent = l[i-1].Key
		}
	}
	return l
}

// manySeries returns n series with many samples each, at moments of their own.
func manySeries(n, each int) series {
	s := make(series, n)
	for i := range s {
		s[i] = api.Series{Tag: fmt.Sprintf("t%06d", i), Samples: manySamples(each)}
		for j := range s[i].Samples {
			s[i].Samples[j].At = j*n + i
		}
	}
	return s
}

// someSamples returns a valid series with moments below end and values from -3 to 3.
func someSamples(r *rand.Rand, end int) samples {
	var l samples
	most := 1 + r.Intn(6)
	for at := range end {
		if r.Intn(most) > 0 {
			continue
		}
		x := api.Sample{At: at, Quality: r.Intn(5) % 3}
		if x.Quality != api.Bad {
			x.Value = r.Intn(7) - 3
		}
		l = append(l, x)
	}
	return l
}

// someAlarm returns a valid alarm without a parent.
func someAlarm(r *rand.Rand, key, tag string) api.Alarm {
	x := api.Alarm{Key: key, Tag: tag, Kind: 1 + r.Intn(3), On: r.Intn(4), Off: r.Intn(4), Priority: 1 + r.Intn(2), Latched: r.Intn(2) == 0}
	if x.Kind != api.AlarmBad {
		x.Limit, x.Deadband = r.Intn(5)-2, r.Intn(4)
	}
	return x
}

// wrongWindows are all kinds of windows that are none.
func wrongWindows() windows {
	return windows{window(-1, 5), window(6, 5), window(0, api.End+1), window(api.End+1, api.End+1), window(math.MinInt, 5), window(0, math.MinInt), window(0, math.MaxInt), window(math.MinInt, math.MaxInt), window(math.MaxInt, math.MaxInt)}
}

func TestP61CheckAlarms(t *testing.T) {
	two := alarms{high("a", 5), high("b", 5)}
	changed := func(change func(x *api.Alarm)) alarms {
		return alarms{two[0], with(two[1], change)}
	}
	for name, c := range map[string]struct {
		l    alarms
		want api.Errno
	}{
		"none":                         {nil, api.OK},
		"two":                          {two, api.OK},
		"as many as can be":            {chain(api.MaxAlarms), api.OK},
		"too many":                     {chain(api.MaxAlarms + 1), api.ErrLarge},
		"no key":                       {changed(func(x *api.Alarm) { x.Key = "" }), api.ErrName},
		"a key of capitals":            {changed(func(x *api.Alarm) { x.Key = "B" }), api.ErrName},
		"a key that is too long":       {changed(func(x *api.Alarm) { x.Key = strings.Repeat("b", api.MaxName+1) }), api.ErrName},
		"the longest key":              {changed(func(x *api.Alarm) { x.Key = strings.Repeat("b", api.MaxName) }), api.OK},
		"no tag":                       {changed(func(x *api.Alarm) { x.Tag = "" }), api.ErrName},
		"a tag that is no key":         {changed(func(x *api.Alarm) { x.Tag = "9" }), api.ErrName},
		"kind 0":                       {changed(func(x *api.Alarm) { x.Kind = 0 }), api.ErrKind},
		"kind 4":                       {changed(func(x *api.Alarm) { x.Kind = 4 }), api.ErrKind},
		"kind -1":                      {changed(func(x *api.Alarm) { x.Kind = -1 }), api.ErrKind},
		"a low one":                    {changed(func(x *api.Alarm) { x.Kind = api.AlarmLow }), api.OK},
		"a bad one":                    {changed(func(x *api.Alarm) { x.Kind, x.Limit = api.AlarmBad, 0 }), api.OK},
		"the least limit":              {changed(func(x *api.Alarm) { x.Limit = -api.MaxValue }), api.OK},
		"the greatest limit":           {changed(func(x *api.Alarm) { x.Limit = api.MaxValue }), api.OK},
		"a limit too small":            {changed(func(x *api.Alarm) { x.Limit = -api.MaxValue - 1 }), api.ErrArg},
		"a limit too great":            {changed(func(x *api.Alarm) { x.Limit = api.MaxValue + 1 }), api.ErrArg},
		"the least int as limit":       {changed(func(x *api.Alarm) { x.Limit = math.MinInt }), api.ErrArg},
		"the greatest deadband":        {changed(func(x *api.Alarm) { x.Deadband = 2 * api.MaxValue }), api.OK},
		"a deadband too great":         {changed(func(x *api.Alarm) { x.Deadband = 2*api.MaxValue + 1 }), api.ErrArg},
		"a deadband below 0":           {changed(func(x *api.Alarm) { x.Deadband = -1 }), api.ErrArg},
		"the greatest delays":          {changed(func(x *api.Alarm) { x.On, x.Off = api.MaxDelay, api.MaxDelay }), api.OK},
		"On too great":                 {changed(func(x *api.Alarm) { x.On = api.MaxDelay + 1 }), api.ErrArg},
		"On below 0":                   {changed(func(x *api.Alarm) { x.On = -1 }), api.ErrArg},
		"Off too great":                {changed(func(x *api.Alarm) { x.Off = api.MaxDelay + 1 }), api.ErrArg},
		"Off below 0":                  {changed(func(x *api.Alarm) { x.Off = math.MinInt }), api.ErrArg},
		"the greatest priority":        {changed(func(x *api.Alarm) { x.Priority = 1_000 }), api.OK},
		"a priority too great":         {changed(func(x *api.Alarm) { x.Priority = 1_001 }), api.ErrArg},
		"priority 0":                   {changed(func(x *api.Alarm) { x.Priority = 0 }), api.ErrArg},
		"a bad one with a limit":       {changed(func(x *api.Alarm) { x.Kind = api.AlarmBad }), api.ErrForm},
		"a bad one with a deadband":    {changed(func(x *api.Alarm) { x.Kind, x.Limit, x.Deadband = api.AlarmBad, 0, 1 }), api.ErrForm},
		"the same key again":           {changed(func(x *api.Alarm) { x.Key = "a" }), api.ErrOrder},
		"a lesser key":                 {alarms{two[1], two[0]}, api.ErrOrder},
		"a parent":                     {changed(func(x *api.Alarm) { x.Parent = "a" }), api.OK},
		"a parent that comes later":    {alarms{child(two[0], "b"), two[1]}, api.OK},
		"a parent that is none":        {changed(func(x *api.Alarm) { x.Parent = "c" }), api.ErrNone},
		"a parent that is no key":      {changed(func(x *api.Alarm) { x.Parent = "-" }), api.ErrNone},
		"its own parent":               {changed(func(x *api.Alarm) { x.Parent = "b" }), api.ErrLoop},
		"its own grandparent":          {alarms{child(two[0], "b"), child(two[1], "a")}, api.ErrLoop},
		"a loop above":                 {alarms{child(two[0], "b"), child(two[1], "c"), child(high("c", 1), "b")}, api.ErrLoop},
		"two of one parent, no loop":   {alarms{two[0], child(two[1], "a"), child(high("c", 1), "a")}, api.OK},
		"Key before Kind":              {changed(func(x *api.Alarm) { x.Key, x.Kind = "", 9 }), api.ErrName},
		"Tag before Kind":              {changed(func(x *api.Alarm) { x.Tag, x.Kind = "", 9 }), api.ErrName},
		"Kind before Limit":            {changed(func(x *api.Alarm) { x.Kind, x.Limit = 9, math.MaxInt }), api.ErrKind},
		"Priority before the form":     {changed(func(x *api.Alarm) { x.Kind, x.Priority = api.AlarmBad, 0 }), api.ErrArg},
		"the form before the order":    {changed(func(x *api.Alarm) { x.Key, x.Kind = "a", api.AlarmBad }), api.ErrForm},
		"the alarm in front":           {alarms{high("a", 5), high("a", 5), {}}, api.ErrOrder},
		"all alarms before parents":    {alarms{child(two[0], "x"), {}}, api.ErrName},
		"all parents before loops":     {alarms{child(two[0], "a"), child(two[1], "x")}, api.ErrNone},
		"the number before all":        {make(alarms, api.MaxAlarms+1), api.ErrLarge},
		"a loop over all":              {append(alarms{child(chain(1)[0], "a000199")}, chain(api.MaxAlarms)[1:]...), api.ErrLoop},
		"a loop and a chain to it":     {append(alarms{child(chain(1)[0], "a000000")}, chain(api.MaxAlarms)[1:]...), api.ErrLoop},
		"a chain, the root at the end": {append(alarms{child(chain(1)[0], "b")}, append(chain(9)[1:], high("b", 1))...), api.OK},
	} {
		same(t, name, alarm.CheckAlarms(c.l), c.want)
	}
}

func TestP61CheckAllSeries(t *testing.T) {
	for name, c := range map[string]struct {
		s    series
		want api.Errno
	}{
		"none":                    {nil, api.OK},
		"two":                     {series{{Tag: "a", Samples: samples{good(1, 1)}}, {Tag: "b"}}, api.OK},
		"as many as can be":       {manySeries(api.MaxTags, 1), api.OK},
		"too many":                {manySeries(api.MaxTags+1, 1), api.ErrLarge},
		"the number before all":   {make(series, api.MaxTags+1), api.ErrLarge},
		"no name":                 {series{{Tag: "a"}, {}}, api.ErrName},
		"a tag again":             {series{{Tag: "a"}, {Tag: "a"}}, api.ErrOrder},
		"a lesser tag":            {series{{Tag: "b"}, {Tag: "a"}}, api.ErrOrder},
		"samples out of order":    {one("a", good(1, 1), good(1, 1)), api.ErrOrder},
		"too many samples":        {one("a", manySamples(api.MaxSamples+1)...), api.ErrLarge},
		"a wrong quality":         {one("a", api.Sample{Quality: 3}), api.ErrKind},
		"a bad sample with value": {one("a", api.Sample{Value: 1, Quality: api.Bad}), api.ErrForm},
		"the name before samples": {one("A", api.Sample{Quality: 3}), api.ErrName},
		"order before samples":    {series{{Tag: "b"}, {Tag: "a", Samples: samples{{Quality: 3}}}}, api.ErrOrder},
		"the series in front":     {series{{Tag: "a", Samples: samples{{Quality: 3}}}, {}}, api.ErrKind},
	} {
		same(t, name, alarm.CheckAllSeries(c.s), c.want)
	}
}

// ack, shelve and release return acts on the alarm a.
func ack(by string, no, at int) api.Act {
	return api.Act{By: by, No: no, At: at, Kind: api.ActAck, Alarm: "a"}
}

func shelve(by string, no, at, until int) api.Act {
	return api.Act{By: by, No: no, At: at, Kind: api.ActShelve, Alarm: "a", Until: until}
}

func release(by string, no, at int) api.Act {
	return api.Act{By: by, No: no, At: at, Kind: api.ActRelease, Alarm: "a"}
}

// manyActs returns n acts of an operator, one each millisecond.
func manyActs(by string, n int) acts {
	a := make(acts, n)
	for i := range a {
		a[i] = ack(by, i+1, i)
	}
	return a
}

func TestP61CheckActs(t *testing.T) {
	for name, c := range map[string]struct {
		a    acts
		want api.Errno
	}{
		"none":                          {nil, api.OK},
		"one of each kind":              {acts{ack("ann", 1, 5), shelve("ann", 2, 5, 6), release("bob", 1, 0)}, api.OK},
		"as many as can be":             {manyActs("ann", api.MaxActs), api.OK},
		"too many":                      {make(acts, api.MaxActs+1), api.ErrLarge},
		"By no key":                     {acts{ack("Ann", 1, 5)}, api.ErrName},
		"By empty":                      {acts{ack("", 1, 5)}, api.ErrName},
		"No 0":                          {acts{ack("ann", 0, 5)}, api.ErrArg},
		"the greatest No":               {acts{ack("ann", api.MaxActs, 5)}, api.OK},
		"No too great":                  {acts{ack("ann", api.MaxActs+1, 5)}, api.ErrArg},
		"At below 0":                    {acts{ack("ann", 1, -1)}, api.ErrArg},
		"the last moment":               {acts{ack("ann", 1, api.End-1)}, api.OK},
		"At End":                        {acts{ack("ann", 1, api.End)}, api.ErrArg},
		"kind 0":                        {acts{{By: "ann", No: 1, Alarm: "a"}}, api.ErrKind},
		"kind 4":                        {acts{{By: "ann", No: 1, Kind: 4, Alarm: "a"}}, api.ErrKind},
		"no alarm":                      {acts{{By: "ann", No: 1, Kind: 1}}, api.ErrName},
		"an alarm that is no key":       {acts{{By: "ann", No: 1, Kind: 1, Alarm: "1"}}, api.ErrName},
		"shelved until now":             {acts{shelve("ann", 1, 5, 5)}, api.ErrArg},
		"shelved until 0":               {acts{shelve("ann", 1, 5, 0)}, api.ErrArg},
		"shelved until the least int":   {acts{shelve("ann", 1, 5, math.MinInt)}, api.ErrArg},
		"shelved for a millisecond":     {acts{shelve("ann", 1, 5, 6)}, api.OK},
		"shelved until End":             {acts{shelve("ann", 1, api.End-1, api.End)}, api.OK},
		"shelved for too long":          {acts{shelve("ann", 1, 5, api.End+1)}, api.ErrArg},
		"an ack until":                  {acts{{By: "ann", No: 1, Kind: api.ActAck, Alarm: "a", Until: 1}}, api.ErrForm},
		"a release until":               {acts{{By: "ann", No: 1, Kind: api.ActRelease, Alarm: "a", Until: -1}}, api.ErrForm},
		"the same again":                {acts{ack("ann", 1, 5), ack("ann", 1, 5)}, api.ErrOrder},
		"a lesser No":                   {acts{ack("ann", 2, 5), ack("ann", 1, 5)}, api.ErrOrder},
		"a lesser operator":             {acts{ack("bob", 1, 5), ack("ann", 2, 6)}, api.ErrOrder},
		"an earlier one":                {acts{ack("ann", 1, 5), ack("ann", 2, 4)}, api.ErrOrder},
		"an earlier one of another":     {acts{ack("ann", 1, 5), ack("bob", 1, 4)}, api.OK},
		"By before No":                  {acts{ack("", 0, -1)}, api.ErrName},
		"No before Kind":                {acts{{By: "ann"}}, api.ErrArg},
		"At before Kind":                {acts{{By: "ann", No: 1, At: -1}}, api.ErrArg},
		"Kind before Alarm":             {acts{{By: "ann", No: 1}}, api.ErrKind},
		"Alarm before Until":            {acts{{By: "ann", No: 1, Kind: api.ActShelve}}, api.ErrName},
		"the form before the order":     {acts{ack("bob", 1, 5), {By: "ann", No: 1, Kind: 1, Alarm: "a", Until: 1}}, api.ErrForm},
		"the act in front":              {acts{ack("ann", 1, 5), ack("ann", 1, 5), {}}, api.ErrOrder},
		"all acts before their moments": {acts{ack("ann", 1, 5), ack("ann", 2, 4), {}}, api.ErrName},
	} {
		same(t, name, alarm.CheckActs(c.a), c.want)
	}
}

func TestP61Merge(t *testing.T) {
	a := acts{ack("ann", 1, 5), ack("ann", 3, 7), shelve("bob", 1, 2, 9)}
	b := acts{ack("ann", 2, 6), ack("ann", 3, 7), release("cat", 1, 0)}
	all := acts{a[0], b[0], a[1], a[2], b[2]}
	for name, c := range map[string]struct {
		a, b, want acts
		e          api.Errno
	}{
		"both empty":                  {nil, nil, nil, api.OK},
		"one empty":                   {a, nil, a, api.OK},
		"the other one empty":         {nil, a, a, api.OK},
		"with itself":                 {a, a, a, api.OK},
		"two":                         {a, b, all, api.OK},
		"in the other order":          {b, a, all, api.OK},
		"with a part":                 {all, b, all, api.OK},
		"the first is wrong":          {acts{ack("ann", 0, 5)}, acts{{}}, nil, api.ErrArg},
		"the second is wrong":         {a, acts{{}}, nil, api.ErrName},
		"the second before conflicts": {a, acts{ack("ann", 1, 6), {}}, nil, api.ErrName},
		"another moment":              {a, acts{ack("ann", 1, 6)}, nil, api.ErrConflict},
		"another kind":                {a, acts{release("ann", 1, 5)}, nil, api.ErrConflict},
		"another end":                 {a, acts{shelve("bob", 1, 2, 8)}, nil, api.ErrConflict},
		"another alarm":               {a, acts{{By: "ann", No: 1, At: 5, Kind: api.ActAck, Alarm: "b"}}, nil, api.ErrConflict},
		"one number of two operators": {a, acts{ack("cat", 1, 5)}, append(slices.Clone(a), ack("cat", 1, 5)), api.OK},
		"moments out of order":        {a, acts{ack("ann", 2, 8)}, nil, api.ErrOrder},
		"a conflict before the order": {a, acts{ack("ann", 2, 8), ack("ann", 3, 8)}, nil, api.ErrConflict},
		"too many":                    {manyActs("ann", api.MaxActs), acts{ack("bob", 1, 1)}, nil, api.ErrLarge},
		"a conflict before too many":  {manyActs("ann", api.MaxActs), acts{ack("ann", 1, 1), ack("bob", 1, 1)}, nil, api.ErrConflict},
		"as many as can be":           {manyActs("ann", api.MaxActs), manyActs("ann", api.MaxActs), manyActs("ann", api.MaxActs), api.OK},
	} {
		got, e := alarm.Merge(c.a, c.b)
		same(t, name, []any{got, e}, []any{c.want, c.e})
	}
}
