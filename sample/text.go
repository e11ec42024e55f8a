package sample

import (
	"strconv"
	"strings"

	"plantlog/api"
	"plantlog/basic"
)

// Text writes a line for each sample.
func Text(l []api.Sample) (string, api.Errno) {
	if e := CheckSeries(l); e != api.OK {
		return "", e
	}
	var text strings.Builder
	for _, x := range l {
		text.WriteString(strconv.Itoa(x.At) + " " + strconv.Itoa(x.Value) + " " + basic.QualityWord(x.Quality) + "\n")
	}
	// The present limits of a series keep its text below this one.
	if text.Len() > api.MaxText {
		return "", api.ErrLarge
	}
	return text.String(), api.OK
}

// Read reads samples.
func Read(text string) ([]api.Sample, int, api.Errno) {
	l, line, e := basic.ReadLines(text, readLine)
	if e != api.OK {
		return nil, line, e
	}
	if e := CheckSeries(l); e != api.OK {
		return nil, 0, e
	}
	return l, 0, api.OK
}

func readLine(line string) (api.Sample, bool) { return basic.SampleOf(strings.Split(line, " ")) }
