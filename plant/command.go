package plant

import (
	"slices"
	"strings"

	"plantlog/api"
	"plantlog/basic"
)

// maxDigits is how many digits a number of a line has at most.
const maxDigits = 12

// command is what the first word of a line asks for: the kinds of the words after it, each a name (a) or a number (1), and what to do with the names and the numbers.
type command struct {
	kinds string
	do    func(names []string, numbers []int) (string, api.Errno)
}

func (c *Console) commands() map[string]command {
	return map[string]command{
		"at":     {"1", c.goTo},
		"tell":   {"a1a111", c.tell},
		"fix":    {"a1a111", c.fix},
		"ack":    {"a1a", c.acknowledge},
		"value":  {"a", c.value},
		"alarms": {"", c.alarms},
		"sum":    {"aa", c.sum},
	}
}

func (c *Console) execute(line string) (string, api.Errno) {
	words := strings.Split(line, " ")
	x, known := c.commands()[words[0]]
	names, numbers, ok := x.read(words[1:])
	// A line feed ends a line, so that a string with one is no line.
	if !known || !ok || strings.Contains(line, "\n") {
		return "", api.ErrSyntax
	}
	return x.do(names, numbers)
}

// read returns the names and the numbers of the words after the first one; false if a word is not of its kind.
func (x command) read(words []string) ([]string, []int, bool) {
	if len(words) != len(x.kinds) || slices.Contains(words, "") {
		return nil, nil, false
	}
	var names []string
	var numbers []int
	for i, word := range words {
		n, ok := basic.Number(word, maxDigits)
		switch {
		case x.kinds[i] == 'a':
			names = append(names, word)
		case !ok:
			return nil, nil, false
		default:
			numbers = append(numbers, n)
		}
	}
	return names, numbers, true
}

func (c *Console) goTo(_ []string, numbers []int) (string, api.Errno) {
	moment := numbers[0]
	switch {
	case !basic.Moment(moment):
		return "", api.ErrArg
	case moment < c.time:
		return "", api.ErrOrder
	}
	c.time = moment
	return done, api.OK
}

// merge merges what a line says into the server. The site is not checked again, as it is the same.
func (c *Console) merge(news api.Server) (string, api.Errno) {
	if e := checkKnown(news); e != api.OK {
		return "", e
	}
	merged, e := joined(c.server, news)
	if e != api.OK {
		return "", e
	}
	c.server = merged
	return done, api.OK
}

// sampleOf returns the sample that the last three numbers of a line are.
func sampleOf(numbers []int) api.Sample {
	last := numbers[len(numbers)-3:]
	return api.Sample{At: last[0], Value: last[1], Quality: last[2]}
}

func (c *Console) tell(names []string, numbers []int) (string, api.Errno) {
	packet := api.Packet{Seq: numbers[0], Tag: names[1], Sample: sampleOf(numbers)}
	return c.merge(api.Server{Arrivals: []api.Arrival{{Node: names[0], At: c.time, Packet: packet}}})
}

func (c *Console) fix(names []string, numbers []int) (string, api.Errno) {
	fix := api.Fix{By: names[0], No: numbers[0], Made: c.time, Kind: api.FixSet, Sample: sampleOf(numbers)}
	return c.merge(api.Server{Fixes: []api.TagFixes{{Tag: names[1], Fixes: []api.Fix{fix}}}})
}

func (c *Console) acknowledge(names []string, numbers []int) (string, api.Errno) {
	act := api.Act{By: names[0], No: numbers[0], At: c.time, Kind: api.ActAck, Alarm: names[1]}
	return c.merge(api.Server{Acts: []api.Act{act}})
}

func (c *Console) value(names []string, _ []int) (string, api.Errno) {
	x, ok, e := value(c.server, names[0], c.time)
	switch {
	case e != api.OK:
		return "", e
	case !ok:
		return "none\n", api.OK
	}
	return ending(x.At, x.Value, x.Quality), api.OK
}

func (c *Console) alarms(_ []string, _ []int) (string, api.Errno) {
	list, e := viewOf(c.server, c.time).standing()
	if e != api.OK {
		return "", e
	}
	var answer strings.Builder
	for _, x := range list {
		answer.WriteString(x.Alarm + " " + ending(x.State, x.Since))
	}
	return answer.String() + done, api.OK
}

func (c *Console) sum(names []string, _ []int) (string, api.Errno) {
	total, count, others, e := sum(c.server, names[0], names[1], c.time)
	if e != api.OK {
		return "", e
	}
	return ending(total, count, others), api.OK
}
