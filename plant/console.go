package plant

import (
	"strconv"
	"strings"

	"plantlog/api"
)

// Console is where operators work.
type Console struct {
	server api.Server
	time   int
}

// New makes a console for a site.
func New(s api.Site) (*Console, api.Errno) {
	if e := CheckSite(s); e != api.OK {
		return nil, e
	}
	return &Console{server: api.Server{Site: copyOfSite(s)}}, api.OK
}

// Take merges a server into that of the console.
func (c *Console) Take(b api.Server) api.Errno {
	merged, e := Merge(c.server, b)
	if e == api.OK {
		c.server = merged
	}
	return e
}

// Server returns the server.
func (c *Console) Server() api.Server { return copyOf(c.server) }

// Do executes a line.
func (c *Console) Do(line string) string {
	answer, e := c.execute(line)
	if e != api.OK {
		return failure(e)
	}
	return answer
}

// Session executes the lines of a script.
func Session(s api.Site, script string) string {
	if len(script) > api.MaxText {
		return failure(api.ErrLarge)
	}
	c, e := New(s)
	if e != api.OK {
		return failure(e)
	}
	var answers strings.Builder
	for line := range strings.SplitSeq(script, "\n") {
		if line != "" {
			answers.WriteString(c.Do(line))
		}
	}
	return answers.String()
}

const done = "ok\n"

func failure(e api.Errno) string { return "error " + ending(int(e)) }

// ending returns numbers as the end of a line.
func ending(numbers ...int) string {
	words := make([]string, len(numbers))
	for i, n := range numbers {
		words[i] = strconv.Itoa(n)
	}
	return strings.Join(words, " ") + "\n"
}
