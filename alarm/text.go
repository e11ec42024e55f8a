package alarm

import (
	"slices"
	"strconv"
	"strings"

	"plantlog/api"
	"plantlog/basic"
)

const noParent = "-" // in a text; no key is this

// kindWords are the words for kinds; the first one is that of kind 1.
var kindWords = [...]string{"high", "low", "bad"}

// kindNamed returns the kind that a word stands for; false if there is none.
func kindNamed(word string) (int, bool) {
	for i, name := range kindWords {
		if name == word {
			return i + 1, true
		}
	}
	return 0, false
}

// Text writes a line for each alarm.
func Text(l []api.Alarm) (string, api.Errno) {
	if e := CheckAlarms(l); e != api.OK {
		return "", e
	}
	var text strings.Builder
	for _, x := range l {
		text.WriteString(line(x))
	}
	// The present limits of alarms keep their text below this one.
	if text.Len() > api.MaxText {
		return "", api.ErrLarge
	}
	return text.String(), api.OK
}

func line(x api.Alarm) string {
	latched, parent := 0, noParent
	if x.Latched {
		latched = 1
	}
	if x.Parent != "" {
		parent = x.Parent
	}
	words := []string{x.Key, x.Tag, kindWords[x.Kind-1]}
	for _, n := range []int{x.Limit, x.Deadband, x.On, x.Off, x.Priority, latched} {
		words = append(words, strconv.Itoa(n))
	}
	return strings.Join(append(words, parent), " ") + "\n"
}

// Read reads alarms.
func Read(text string) ([]api.Alarm, int, api.Errno) {
	l, at, e := basic.ReadLines(text, readLine)
	if e != api.OK {
		return nil, at, e
	}
	if e := CheckAlarms(l); e != api.OK {
		return nil, 0, e
	}
	return l, 0, api.OK
}

func readLine(line string) (api.Alarm, bool) {
	words := strings.Split(line, " ")
	if len(words) != 10 || slices.Contains(words, "") {
		return api.Alarm{}, false
	}
	kind, named := kindNamed(words[2])
	n, ok := basic.Numbers(words[3:9], basic.MaxDigits)
	if !named || !ok || !basic.Within(n[5], 0, 1) {
		return api.Alarm{}, false
	}
	x := api.Alarm{Key: words[0], Tag: words[1], Kind: kind, Limit: n[0], Deadband: n[1], On: n[2], Off: n[3], Priority: n[4], Latched: n[5] == 1}
	if words[9] != noParent {
		x.Parent = words[9]
	}
	return x, true
}
