package plant_test

import (
	"fmt"
	"math/rand"
	"strconv"
	"strings"
	"testing"
	"time"

	"plantlog/api"
	"plantlog/plant"
)

func newConsole(t *testing.T, s api.Site) *plant.Console {
	t.Helper()
	c, e := plant.New(s)
	if e != api.OK || c == nil {
		t.Fatal(e)
	}
	return c
}

// dialogue is lines, each with what it returns, without the line feed at the end.
type dialogue [][2]string

// hold checks that a console returns what a dialogue says; it returns the console.
func (d dialogue) hold(t *testing.T, c *plant.Console) *plant.Console {
	t.Helper()
	for _, x := range d {
		if got := c.Do(x[0]); got != x[1]+"\n" {
			t.Errorf("%q returns %q, not %q", x[0], got, x[1])
		}
	}
	return c
}

func TestP104Dialogue(t *testing.T) {
	d := dialogue{
		{"value p1_temp", "none"},
		{"alarms", "ok"},
		{"sum p1 %_temp", "0 0 2"},
		{"at 0", "ok"},
		{"at 10", "ok"},
		{"tell n2 1 p1_temp 5 7 0", "ok"},
		{"value p1_temp", "5 7 0"},
		{"value p1_sum", "0 0 2"},
		{"alarms", "p1_hot 2 5\nok"},
		{"tell n2 2 p1_flow 6 -2 1", "ok"},
		{"value p1_flow", "6 -2 1"},
		{"value p1_sum", "6 5 1"},
		{"sum p1 %_flow", "-2 1 1"},
		{"at 12", "ok"},
		{"ack ann 1 p1_hot", "ok"},
		{"alarms", "p1_hot 3 12\nok"},
		{"tell n2 3 p2_temp 11 9 0", "ok"},
		{"alarms", "p2_hot 2 11\np1_hot 3 12\nok"},
		{"fix ann 1 p1_temp 5 3 0", "ok"},
		{"value p1_temp", "5 3 0"},
		{"alarms", "p2_hot 2 11\nok"},
		{"at 20", "ok"},
		{"tell n2 4 p1_temp 20 0 2", "ok"},
		{"value p1_temp", "20 0 2"},
		{"tell n1 1 p1_temp 16 1 0", "ok"}, // its clock is 3 behind
		{"value p1_temp", "20 0 2"},
		{"tell n1 2 p1_temp 18 2 0", "ok"},
		{"at 21", "ok"},
		{"value p1_temp", "21 2 0"},
		{"sum p1 %_temp", "11 2 0"},
		{"at 10", "error 7"},
		{"value p1_temp", "21 2 0"},
	}
	c := d.hold(t, newConsole(t, site()))
	same(t, "Server", c.Server(), api.Server{
		Site: site(),
		Arrivals: arrivals{
			arrival("n2", 10, 1, "p1_temp", good(5, 7)),
			arrival("n2", 10, 2, "p1_flow", uncertain(6, -2)),
			arrival("n2", 12, 3, "p2_temp", good(11, 9)),
			arrival("n1", 20, 1, "p1_temp", good(16, 1)),
			arrival("n1", 20, 2, "p1_temp", good(18, 2)),
			arrival("n2", 20, 4, "p1_temp", bad(20)),
		},
		Fixes: allFixes{{Tag: "p1_temp", Fixes: fixes{set("ann", 1, 12, good(5, 3))}}},
		Acts:  acts{ack("ann", 1, 12, "p1_hot")},
	})
}

func TestP104At(t *testing.T) {
	last := strconv.Itoa(api.End - 1)
	dialogue{
		{"at -1", "error 1"},
		{"at -999999999999", "error 1"},
		{"at 0", "ok"},
		{"at 5", "ok"},
		{"at 5", "ok"},
		{"at 4", "error 7"},
		{"at 0", "error 7"},
		{"at -1", "error 1"},
		{"at " + strconv.Itoa(api.End), "error 1"},
		{"at 999999999999", "error 1"},
		{"at " + last, "ok"},
		{"at " + last, "ok"},
		{"at 5", "error 7"},
		{"tell n 1 p1_temp 0 1 0", "ok"},
		{"fix ann 1 p1_temp 1 2 0", "ok"},
		{"ack ann 1 p1_hot", "ok"},
		{"value p1_temp", "1 2 0"},
		{"value p1_sum", "0 0 2"},
		{"alarms", "ok"},
		{"sum p1 %_temp", "2 1 1"},
	}.hold(t, newConsole(t, site()))
}

func TestP104Syntax(t *testing.T) {
	c := newConsole(t, site())
	c.Do("at 5")
	before := c.Server()
	for _, line := range []string{
		"", " ", "  ", "x", "At 5", "AT 5", "at", "at ", " at 5", "at 5 ", "at  5", "at 5 6", "at\t5", "at5", "at x",
		"at 05", "at 00", "at -0", "at +5", "at 5.", "at 5.0", "at 1e1", "at 0x5", "at 5_0", "at --5", "at -", "at \xff", "at \u0665",
		"at 1000000000000", "at -1000000000000", "at 0000000000005", "at 99999999999999999999999",
		"at 5\n", "\nat 5", "alarms\n", "alarms\nalarms", "value p1_temp\n", "value\np1_temp", "sum p1 %\n", "at 5\nat 6",
		"tell", "tell n 1 p1_temp 5 7", "tell n 1 p1_temp 5 7 0 0", "tell n 1 p1_temp 5 7 ", "tell  1 p1_temp 5 7 0", "tell n 1  5 7 0",
		"tell n x p1_temp 5 7 0", "tell n 1 p1_temp x 7 0", "tell n 1 p1_temp 5 x 0", "tell n 1 p1_temp 5 7 good", "tell n 1 p1_temp 5 7 -0", "tell n 1 p1_temp 5 1000000000000 0", "tell n 01 p1_temp 5 7 0",
		"tell 1 n p1_temp 5 7 0", "tell N x p1_temp 5 7 0",
		"fix", "fix ann 1 p1_temp 5 7", "fix ann 1 p1_temp 5 7 0 0", "fix ann x p1_temp 5 7 0", "fix ann 1 p1_temp 5 7 bad", "fix ann 1 p1_temp 05 7 0", "fix 1 ann p1_temp 5 7 0", "fix ann 1 p1_temp  7 0",
		"ack", "ack ann 1", "ack ann 1 ", "ack ann x p1_hot", "ack ann 1 p1_hot 5", "ack ann p1_hot 1", "ack ann 1000000000000 p1_hot", "ack  1 p1_hot",
		"value", "value ", "value  p1_temp", "value p1_temp ", "value p1_temp p1_flow", "values p1_temp",
		"alarms ", " alarms", "alarms 5", "alarm", "ALARMS",
		"sum", "sum p1", "sum p1 ", "sum  %", "sum p1 % _temp", "sum p1 %_temp ", "sum x", "session", "take", "ok", "error 9", "%",
	} {
		if got := c.Do(line); got != "error 9\n" {
			t.Errorf("%q returns %q", line, got)
		}
	}
	same(t, "the server", c.Server(), before)
	dialogue{{"at 4", "error 7"}, {"at 5", "ok"}, {"alarms", "ok"}}.hold(t, c)
}

func TestP104Errors(t *testing.T) {
	known := dialogue{
		{"at 10", "ok"},
		{"tell n1 1 p1_temp 5 7 0", "ok"},
		{"fix ann 1 p1_temp 5 9 0", "ok"},
		{"ack ann 3 p1_hot", "ok"},
		{"at 20", "ok"},
	}
	c := known.hold(t, newConsole(t, site()))
	before := c.Server()
	dialogue{
		{"tell N 0 T 5 7 0", "error 5"},
		{"tell n1 0 T 5 7 0", "error 1"},
		{"tell n1 -1 T 5 7 0", "error 1"},
		{"tell n1 1000001 T 5 7 0", "error 1"},
		{"tell n1 2 T -1 7 0", "error 5"},
		{"tell n1 2 t -1 7 3", "error 1"},
		{"tell n1 2 t 345686400000 7 3", "error 1"},
		{"tell n1 2 t 5 1000001 3", "error 4"},
		{"tell n1 2 t 5 7 -1", "error 4"},
		{"tell n1 2 t 5 -1000001 2", "error 1"},
		{"tell n1 2 t 5 7 2", "error 3"},
		{"tell n1 1 p1_temp 5 8 0", "error 13"},
		{"tell n1 1 p1_temp 6 7 0", "error 13"},
		{"tell n1 1 p1_flow 5 7 0", "error 13"},
		{"tell n1 1 p1_temp 5 7 1", "error 13"},
		{"fix A 0 T 5 7 0", "error 5"},
		{"fix ann 0 T 5 7 0", "error 5"},
		{"fix ann 0 p1_temp 5 7 0", "error 1"},
		{"fix A 0 p1_temp 5 7 0", "error 5"},
		{"fix ann 1000001 p1_temp 5 7 3", "error 1"},
		{"fix ann 2 p1_temp 5 7 3", "error 4"},
		{"fix ann 2 p1_temp -1 7 3", "error 1"},
		{"fix ann 2 p1_temp 5 7 2", "error 3"},
		{"fix ann 1 p1_temp 5 9 0", "error 13"}, // it was made earlier
		{"fix ann 1 p1_temp 5 8 0", "error 13"},
		{"ack A 0 A", "error 5"},
		{"ack ann 0 A", "error 1"},
		{"ack ann 2001 a", "error 1"},
		{"ack ann 4 A", "error 5"},
		{"ack ann 3 p1_hot", "error 13"}, // it was done earlier
		{"ack ann 3 p2_hot", "error 13"},
		{"ack ann 2 p1_hot", "error 7"}, // later than the next one
		{"value x", "error 8"},
		{"value p1", "error 8"},
		{"value %_temp", "error 8"},
		{"value -", "error 8"},
		{"sum x y", "error 8"},
		{"sum p1_temp %", "error 8"},
		{"sum p1 p1_temp", "error 3"},
		{"sum - -", "error 8"},
	}.hold(t, c)
	same(t, "the server", c.Server(), before)
	dialogue{
		{"tell n1 1 p1_temp 5 7 0", "ok"}, // it arrives again
		{"tell n1 1000000 x 0 -1000000 1", "ok"},
		{"tell n9 1 x-1 345686399999 1000000 0", "ok"},
		{"fix ann 1 p1_flow 5 9 0", "ok"}, // of another tag
		{"fix bob 1000000 x 5 0 2", "ok"},
		{"ack ann 4 p1_hot", "ok"},
		{"ack bob 2000 x", "ok"},
		{"value p1_temp", "8 7 0"},
		{"value p1_flow", "5 9 0"},
		{"sum p1 %", "0 0 0"},
	}.hold(t, c)
}

// TestP104ErrorsOfValues: a tag that cannot be calculated.
func TestP104ErrorsOfValues(t *testing.T) {
	c := newConsole(t, shifts())
	dialogue{{"value ba", "error 12"}, {"sum a b%", "error 12"}, {"value ca", "0 0 2"}, {"value ea", "0 1 0"}, {"value a", "none"}, {"alarms", "ok"}}.hold(t, c)
	s := shifts()
	s.Templates[0].Alarms[0].Tag = "b%"
	dialogue{{"alarms", "error 12"}, {"at 5", "ok"}, {"tell n 1 a 5 5 0", "ok"}, {"value a", "5 5 0"}}.hold(t, newConsole(t, s))
}

func TestP104Large(t *testing.T) {
	c := newConsole(t, site())
	same(t, "Take", c.Take(api.Server{Site: site(), Arrivals: many(api.MaxPackets, func(i int) api.Arrival { return arrival("n", 0, i+1, "t", good(i, 1)) })}), api.OK)
	same(t, "Take", c.Take(api.Server{Site: site(), Fixes: many(api.MaxTags, func(i int) api.TagFixes { return api.TagFixes{Tag: numbered("t")(i)} })}), api.OK)
	dialogue{
		{"tell n 2001 t 1 1 0", "error 2"},
		{"tell n 1 t 0 1 0", "ok"},
		{"at 1", "ok"},
		{"tell n 1 t 0 1 0", "error 2"},
		{"fix ann 1 x 1 1 0", "error 2"},
		{"fix ann 1 t000 1 1 0", "ok"},
	}.hold(t, c)
	same(t, "arrivals", len(c.Server().Arrivals), api.MaxPackets)
	same(t, "fixes", len(c.Server().Fixes), api.MaxTags)
}

func TestP104Take(t *testing.T) {
	c := newConsole(t, site())
	same(t, "the first server", c.Server(), api.Server{Site: site()})
	same(t, "Take", c.Take(server()), api.OK)
	same(t, "Server", c.Server(), server())
	same(t, "Take, again", c.Take(server()), api.OK)
	same(t, "Server", c.Server(), server())
	same(t, "Take of another one", c.Take(other()), api.OK)
	want, _ := plant.Merge(server(), other())
	same(t, "Server", c.Server(), want)

	wrong := other()
	wrong.Acts[0].No = 0
	same(t, "Take of a wrong one", c.Take(wrong), api.ErrArg)
	wrong = other()
	wrong.Site.Clocks = nil
	same(t, "Take of another site", c.Take(wrong), api.ErrConflict)
	wrong.Site.Assets[0].Key = ""
	same(t, "Take of a wrong site", c.Take(wrong), api.ErrName)
	wrong = other()
	wrong.Arrivals = append(wrong.Arrivals, arrival("n3", 50, 1, "p1_temp", good(1, 1)))
	wrong.Acts[0].Alarm = "x"
	same(t, "Take of a conflict", c.Take(wrong), api.ErrConflict)
	same(t, "Server", c.Server(), want)
	// What arrived later is known, but not yet.
	dialogue{
		{"value p1_temp", "none"},
		{"at 12", "ok"},
		{"value p1_temp", "8 7 0"},
		{"alarms", "p1_hot 2 8\nok"},
		{"at 40", "ok"},
		{"alarms", "p2_hot 3 35\np1_hot 3 38\nok"},
		{"value p1_temp", "23 9 0"},
	}.hold(t, c)
}

func TestP104New(t *testing.T) {
	c, e := plant.New(api.Site{Templates: templates{{}}})
	same(t, "a wrong site", []any{c == nil, e}, []any{true, api.ErrName})
	dialogue{{"alarms", "ok"}, {"value a", "error 8"}, {"sum a %", "error 8"}, {"tell n 1 a 0 1 0", "ok"}}.hold(t, newConsole(t, api.Site{}))
	a, b := newConsole(t, site()), newConsole(t, site())
	dialogue{{"tell n2 1 p1_temp 0 1 0", "ok"}, {"at 5", "ok"}}.hold(t, a)
	dialogue{{"value p1_temp", "none"}, {"at 3", "ok"}, {"tell n2 1 p1_temp 0 2 0", "ok"}}.hold(t, b)
	dialogue{{"value p1_temp", "0 1 0"}, {"at 3", "error 7"}}.hold(t, a)
}

func TestP104Session(t *testing.T) {
	for script, want := range map[string]string{
		"":                          "",
		"\n":                        "",
		"\n\n\n":                    "",
		"alarms":                    "ok\n",
		"alarms\n":                  "ok\n",
		"\n\nalarms\n\n\nalarms\n":  "ok\nok\n",
		" \n":                       "error 9\n",
		"alarms\r\n":                "error 9\n",
		"at 5\nat 4\nx\nat 6\nat 5": "ok\nerror 7\nerror 9\nok\nerror 7\n",
		"tell n2 1 p1_temp 0 6 0\nalarms\nvalue p1_temp\nsum p1 %_temp": "ok\np1_hot 2 0\nok\n0 6 0\n6 1 1\n",
	} {
		same(t, fmt.Sprintf("%q", script), plant.Session(site(), script), want)
	}
	wrong := api.Site{Templates: templates{{}}}
	same(t, "a wrong site", plant.Session(wrong, "alarms\n"), "error 5\n")
	same(t, "a wrong site and no line", plant.Session(wrong, ""), "error 5\n")
	long := strings.Repeat("\n", api.MaxText)
	same(t, "a script of greatest length", plant.Session(site(), long[:api.MaxText-6]+"alarms"), "ok\n")
	same(t, "a script that is too long", plant.Session(site(), long+"\n"), "error 2\n")
	same(t, "a script that is too long, of a wrong site", plant.Session(wrong, long+"\n"), "error 2\n")
	same(t, "a script of greatest length, of a wrong site", plant.Session(wrong, long), "error 5\n")
}

// TestP104LongSession: a session with as many arrivals as there can be, and more.
func TestP104LongSession(t *testing.T) {
	start := time.Now()
	var script strings.Builder
	for i := 0; script.Len() < api.MaxText-40; i++ {
		fmt.Fprintf(&script, "tell n%d %d p1_temp %d 9 0\n", i%api.MaxNodes, i+1, i)
	}
	text := plant.Session(site(), script.String())
	same(t, "arrivals", strings.Count(text, "ok\n"), api.MaxPackets)
	same(t, "all others", strings.ReplaceAll(text, "error 2\n", ""), strings.Repeat("ok\n", api.MaxPackets))
	if time.Since(start) > time.Minute {
		t.Errorf("after %v", time.Since(start))
	}
}

// answers returns what a line has to return, of a server that is merged by Merge alone.
func answers(b *api.Server, now *int, words []string) string {
	number := func(i int) int { n, _ := strconv.Atoi(words[i]); return n }
	news, e := api.Server{Site: b.Site}, api.OK
	switch words[0] {
	case "at":
		*now = number(1)
		return "ok\n"
	case "tell":
		news.Arrivals = arrivals{arrival(words[1], *now, number(2), words[3], api.Sample{At: number(4), Value: number(5), Quality: number(6)})}
	case "fix":
		news.Fixes = allFixes{{Tag: words[3], Fixes: fixes{set(words[1], number(2), *now, api.Sample{At: number(4), Value: number(5), Quality: number(6)})}}}
	case "ack":
		news.Acts = acts{ack(words[1], number(2), *now, words[3])}
	case "value":
		x, is, e := plant.Value(*b, words[1], *now)
		switch {
		case e != api.OK:
			return fmt.Sprintf("error %d\n", e)
		case !is:
			return "none\n"
		}
		return fmt.Sprintf("%d %d %d\n", x.At, x.Value, x.Quality)
	case "alarms":
		text := ""
		l, _ := plant.Standing(*b, *now)
		for _, x := range l {
			text += fmt.Sprintf("%s %d %d\n", x.Alarm, x.State, x.Since)
		}
		return text + "ok\n"
	case "sum":
		sum, count, others, _ := plant.Sum(*b, words[1], words[2], *now)
		return fmt.Sprintf("%d %d %d\n", sum, count, others)
	}
	merged, e := plant.Merge(*b, news)
	if e != api.OK {
		return fmt.Sprintf("error %d\n", e)
	}
	*b = merged
	return "ok\n"
}

// TestP104AsTheDocumentSays: each line does what the functions of the package do.
func TestP104AsTheDocumentSays(t *testing.T) {
	r := rand.New(rand.NewSource(106))
	tag := func() string { return []string{"p1_temp", "p1_flow", "p2_temp", "p2_flow", "p1_sum", "x"}[r.Intn(6)] }
	seen := map[string]int{}
	for range 60 {
		now, b := 0, api.Server{Site: site()}
		c := newConsole(t, site())
		script, want := "", ""
		for range 60 {
			line := ""
			switch r.Intn(9) {
			case 0:
				line = fmt.Sprintf("at %d", now+r.Intn(4))
			case 1, 2, 3:
				line = fmt.Sprintf("tell n%d %d %s %d %d %d", r.Intn(3), 1+r.Intn(20), tag(), r.Intn(30), r.Intn(12), r.Intn(2))
			case 4:
				line = fmt.Sprintf("fix ann %d %s %d %d %d", r.Intn(9), tag(), r.Intn(30), r.Intn(12), r.Intn(2))
			case 5:
				line = fmt.Sprintf("ack bob %d p%d_hot", r.Intn(20), 1+r.Intn(2))
			case 6:
				line = "value " + tag()
			case 7:
				line = "alarms"
			case 8:
				line = fmt.Sprintf("sum p%d %%_%s", 1+r.Intn(2), []string{"temp", "sum", "flow"}[r.Intn(3)])
			}
			answer := answers(&b, &now, strings.Split(line, " "))
			seen[strings.Split(line, " ")[0]+" "+strings.Split(answer, "\n")[0]]++
			if got := c.Do(line); got != answer {
				t.Fatalf("%q after %q: %q, not %q", line, script, got, answer)
			}
			script, want = script+line+"\n", want+answer
		}
		same(t, "Server", c.Server(), b)
		same(t, "Session", plant.Session(site(), script), want)
	}
	for _, what := range []string{"tell ok", "tell error 13", "fix ok", "fix error 1", "fix error 13", "ack ok", "ack error 7", "ack error 13", "value none", "value error 8", "alarms ok", "alarms p1_hot 2 0"} {
		if seen[what] == 0 {
			t.Error(what, "was not seen", seen)
		}
	}
}
