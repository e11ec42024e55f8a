package buffer

import (
	"slices"
	"strconv"
	"strings"

	"plantlog/api"
	"plantlog/basic"
	"plantlog/sample"
)

// Text writes a line for each arrival.
func Text(l []api.Arrival) (string, api.Errno) {
	if e := CheckArrivals(l); e != api.OK {
		return "", e
	}
	var text strings.Builder
	for _, x := range l {
		text.WriteString(line(x))
	}
	if text.Len() > api.MaxText {
		return "", api.ErrLarge
	}
	return text.String(), api.OK
}

func line(x api.Arrival) string {
	// There is no error, as the sample is checked already.
	end, _ := sample.Text([]api.Sample{x.Packet.Sample})
	return strings.Join([]string{x.Node, strconv.Itoa(x.At), strconv.Itoa(x.Packet.Seq), x.Packet.Tag, end}, " ")
}

// Read reads arrivals.
func Read(text string) ([]api.Arrival, int, api.Errno) {
	l, at, e := basic.ReadLines(text, readLine)
	if e != api.OK {
		return nil, at, e
	}
	if e := CheckArrivals(l); e != api.OK {
		return nil, 0, e
	}
	return l, 0, api.OK
}

func readLine(line string) (api.Arrival, bool) {
	words := strings.Split(line, " ")
	if len(words) != 7 || slices.Contains(words, "") {
		return api.Arrival{}, false
	}
	numbers, ok := basic.Numbers(words[1:3], basic.MaxDigits)
	x, is := basic.SampleOf(words[4:])
	if !ok || !is {
		return api.Arrival{}, false
	}
	return api.Arrival{Node: words[0], At: numbers[0], Packet: api.Packet{Seq: numbers[1], Tag: words[3], Sample: x}}, true
}
