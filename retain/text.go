package retain

import (
	"strconv"
	"strings"

	"plantlog/api"
	"plantlog/basic"
)

// mostDigits is how many digits a number in a text has at most.
const mostDigits = 19

// Text writes a line for each bin.
func Text(b []api.Bin, step int) (string, api.Errno) {
	if e := CheckBins(b, step); e != api.OK {
		return "", e
	}
	var text strings.Builder
	for _, x := range b {
		for _, n := range []int{x.From, x.Sum, x.Count, x.Other, x.Low} {
			text.WriteString(strconv.Itoa(n) + " ")
		}
		text.WriteString(strconv.Itoa(x.High) + "\n")
	}
	if text.Len() > api.MaxText {
		return "", api.ErrLarge
	}
	return text.String(), api.OK
}

// Read reads bins.
func Read(step int, text string) ([]api.Bin, int, api.Errno) {
	if !isStep(step) {
		return nil, 0, api.ErrArg
	}
	b, line, e := basic.ReadLines(text, readLine)
	if e != api.OK {
		return nil, line, e
	}
	if e := CheckBins(b, step); e != api.OK {
		return nil, 0, e
	}
	return b, 0, api.OK
}

func readLine(line string) (api.Bin, bool) {
	n, ok := basic.Numbers(strings.Split(line, " "), mostDigits)
	if !ok || len(n) != 6 {
		return api.Bin{}, false
	}
	return api.Bin{From: n[0], Sum: n[1], Count: n[2], Other: n[3], Low: n[4], High: n[5]}, true
}
