package sample

import (
	"strconv"
	"strings"

	"plantlog/api"
	"plantlog/basic"
)

// maxDigits is how many digits a number of a text has at most.
const maxDigits = 15

// Text writes a line for each sample.
func Text(l []api.Sample) (string, api.Errno) {
	if e := CheckSeries(l); e != api.OK {
		return "", e
	}
	var text strings.Builder
	for _, x := range l {
		text.WriteString(strconv.Itoa(x.At) + " " + strconv.Itoa(x.Value) + " " + basic.QualityWord(x.Quality) + "\n")
	}
	// The present limits of a series keep its text below this one.
	if text.Len() > api.MaxText {
		return "", api.ErrLarge
	}
	return text.String(), api.OK
}

// Read reads samples.
func Read(text string) ([]api.Sample, int, api.Errno) {
	if len(text) > api.MaxText {
		return nil, 0, api.ErrLarge
	}
	var l []api.Sample
	for text != "" {
		line, rest, ended := strings.Cut(text, "\n")
		x, ok := readLine(line)
		if !ended || !ok {
			return nil, len(l), api.ErrSyntax
		}
		l = append(l, x)
		text = rest
	}
	if e := CheckSeries(l); e != api.OK {
		return nil, 0, e
	}
	return l, 0, api.OK
}

func readLine(line string) (api.Sample, bool) {
	words := strings.Split(line, " ")
	if len(words) != 3 {
		return api.Sample{}, false
	}
	at, atOK := basic.Number(words[0], maxDigits)
	value, valueOK := basic.Number(words[1], maxDigits)
	quality, qualityOK := basic.QualityNamed(words[2])
	return api.Sample{At: at, Value: value, Quality: quality}, atOK && valueOK && qualityOK
}
