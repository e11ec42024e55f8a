package batch

import (
	"math/bits"
	"slices"

	"plantlog/api"
	"plantlog/basic"
)

// Phases returns the phases of a frame.
func Phases(l []api.Sample, f api.Window) ([]api.Phase, api.Errno) {
	if e := checkFramed(l, f); e != api.OK {
		return nil, e
	}
	var phases []api.Phase
	for value, run := range basic.Runs(l, f, api.Uncertain) {
		last := len(phases) - 1
		switch {
		case !phaseNumber(value):
			continue
		case last >= 0 && phases[last].Number == value && phases[last].Window.To == run.From:
			phases[last].Window.To = run.To
		default:
			phases = append(phases, api.Phase{Number: value, Window: run})
		}
	}
	return phases, api.OK
}

// CheckRecipe says what is wrong with a recipe.
func CheckRecipe(r []api.Stage) api.Errno {
	switch {
	case len(r) == 0:
		return api.ErrNone
	case len(r) > api.MaxStages:
		return api.ErrLarge
	}
	seen, twice := map[int]bool{}, false
	for _, x := range r {
		if !phaseNumber(x.Number) || !basic.Within(x.Repeat, 1, 100) {
			return api.ErrArg
		}
		twice = twice || seen[x.Number]
		seen[x.Number] = true
	}
	if twice {
		return api.ErrTwice
	}
	return api.OK
}

// Follows reports whether phases follow a recipe, and otherwise where it is clear that they do not.
func Follows(r []api.Stage, p []api.Phase) (bool, int, api.Errno) {
	if e := CheckRecipe(r); e != api.OK {
		return false, 0, e
	}
	if e := checkPhases(p); e != api.OK {
		return false, 0, e
	}
	// No two stages have one Number: each one takes all that it can.
	done := 0
	for _, stage := range r {
		n := occurrences(stage, p[done:])
		if n == 0 && !stage.Optional {
			return false, done, api.OK
		}
		done += n
	}
	if done < len(p) {
		return false, done, api.OK
	}
	return true, 0, api.OK
}

// occurrences returns with how many occurrences of a stage phases begin, as far as it permits them.
func occurrences(stage api.Stage, p []api.Phase) int {
	first := p[:min(stage.Repeat, len(p))]
	n := slices.IndexFunc(first, func(x api.Phase) bool { return x.Number != stage.Number })
	if n < 0 {
		return len(first)
	}
	return n
}

// MapTime maps a moment from the phases of a batch to those of another one.
func MapTime(a, b []api.Phase, at int) (int, bool, api.Errno) {
	if e := checkPhases(a); e != api.OK {
		return 0, false, e
	}
	if e := checkPhases(b); e != api.OK {
		return 0, false, e
	}
	if !basic.Moment(at) {
		return 0, false, api.ErrArg
	}
	k := slices.IndexFunc(a, func(x api.Phase) bool { return basic.Inside(at, x.Window) })
	if k < 0 || k >= len(b) || a[k].Number != b[k].Number {
		return 0, false, api.OK
	}
	from, to := a[k].Window, b[k].Window
	return to.From + part(basic.Long(to), at-from.From, basic.Long(from)), true, api.OK
}

// part returns n * number / by, rounded down, of numbers that are not below 0, number less than by. The product can be greater than the greatest int.
func part(n, number, by int) int {
	high, low := bits.Mul64(uint64(n), uint64(number))
	quotient, _ := bits.Div64(high, low, uint64(by))
	return int(quotient)
}
