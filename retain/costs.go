package retain

import (
	"slices"

	"plantlog/api"
	"plantlog/basic"
)

// hour is the milliseconds of an hour.
const hour = 3_600_000

// Cost returns what levels cost.
func Cost(l []api.Level, rate int) (int, api.Errno) {
	if e := CheckLevels(l); e != api.OK {
		return 0, e
	}
	if !basic.Within(rate, 1, api.MaxQuota) {
		return 0, api.ErrArg
	}
	total := 0
	for _, x := range l {
		total += costOf(x, rate)
	}
	return total, api.OK
}

// costOf returns what a level costs.
func costOf(l api.Level, rate int) int {
	if l.Step == 0 {
		return roundedUp(l.Keep*rate, hour)
	}
	return roundedUp(l.Keep, l.Step) + 1
}

// roundedUp returns a quotient of numbers above 0, rounded up.
func roundedUp(number, by int) int { return (number + by - 1) / by }

// longest returns the greatest Keep with which a level of a step costs at most a quota; it is below 1 if there is none.
func longest(step, rate, quota int) int {
	if step == 0 {
		return quota * hour / rate
	}
	return (quota - 1) * step
}

// Fit returns the levels with a Keep that is reduced so far that they cost at most a quota.
func Fit(l []api.Level, rate, quota int) ([]api.Level, bool, api.Errno) {
	total, e := Cost(l, rate)
	if e != api.OK {
		return nil, false, e
	}
	if !basic.Within(quota, 1, api.MaxQuota) {
		return nil, false, api.ErrArg
	}
	fitted := slices.Clone(l)
	least := 1
	for i, x := range l {
		if total <= quota {
			break
		}
		others := total - costOf(x, rate)
		fitted[i].Keep = max(least, longest(x.Step, rate, max(quota-others, 0)))
		total = others + costOf(fitted[i], rate)
		least = fitted[i].Keep + 1
	}
	if total > quota {
		return nil, false, api.OK
	}
	return fitted, true, api.OK
}
