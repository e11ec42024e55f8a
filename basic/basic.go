// Package basic has what several chapters share: the rules for numbers, fractions, moments, windows, qualities, values, names, lists with keys, parents, samples in words, series of tags and lines of a text, straight lines, the moments at which series differ, the windows in which stepped tags have their values, and the walk through two lists in order.
package basic

import (
	"cmp"
	"iter"
	"sort"
	"strconv"
	"strings"

	"plantlog/api"
)

// MaxDigits is how many digits a number of a text has at most, where a chapter does not say otherwise.
const MaxDigits = 15

// Within reports whether n is from low to high.
func Within(n, low, high int) bool { return low <= n && n <= high }

// Moment reports whether n is a moment.
func Moment(n int) bool { return Within(n, 0, api.End-1) }

// Window reports whether w lies within all moments; it may be empty.
func Window(w api.Window) bool {
	return 0 <= w.From && w.From <= w.To && w.To <= api.End
}

// Lasting reports whether w lies within all moments, and is not empty.
func Lasting(w api.Window) bool { return Window(w) && w.From < w.To }

// Long returns how many milliseconds a window has.
func Long(w api.Window) int { return w.To - w.From }

// Quality reports whether n is a quality.
func Quality(n int) bool { return Within(n, api.Good, api.Bad) }

// qualityWords are the words for qualities; their indices are the qualities.
var qualityWords = [...]string{"good", "uncertain", "bad"}

// QualityWord returns the word for a quality.
func QualityWord(quality int) string { return qualityWords[quality] }

// QualityNamed returns the quality that a word stands for; false if there is none.
func QualityNamed(word string) (int, bool) {
	for quality, name := range qualityWords {
		if name == word {
			return quality, true
		}
	}
	return 0, false
}

// Value reports whether n is in the range of values.
func Value(n int) bool { return Within(n, -api.MaxValue, api.MaxValue) }

// SampleOf reads a sample from the words of its line in a text; false if they do not have this form.
func SampleOf(words []string) (api.Sample, bool) {
	if len(words) != 3 {
		return api.Sample{}, false
	}
	numbers, ok := Numbers(words[:2], MaxDigits)
	quality, named := QualityNamed(words[2])
	if !ok || !named {
		return api.Sample{}, false
	}
	return api.Sample{At: numbers[0], Value: numbers[1], Quality: quality}, true
}

// Inside reports whether n is in w.
func Inside(n int, w api.Window) bool { return w.From <= n && n < w.To }

// ByMoment orders samples by time.
func ByMoment(x, y api.Sample) int { return cmp.Compare(x.At, y.At) }

// Position returns the index of the first sample of a series that is not before a moment.
func Position(l []api.Sample, at int) int {
	return sort.Search(len(l), func(i int) bool { return l[i].At >= at })
}

// Differing returns the moments at which two series have different samples, or only one of them has a sample, rising.
func Differing(a, b []api.Sample) []int {
	var moments []int
	add := func(x api.Sample) { moments = append(moments, x.At) }
	Align(a, b, ByMoment, add, func(x, y api.Sample) {
		if x != y {
			add(x)
		}
	})
	return moments
}

// Runs goes through the values with a quality at most worst that a stepped tag has within a window, each with when it has it.
func Runs(l []api.Sample, w api.Window, worst int) iter.Seq2[int, api.Window] {
	return func(yield func(value int, run api.Window) bool) {
		if Long(w) == 0 {
			return
		}
		first := max(Position(l, w.From+1)-1, 0)
		for i, x := range l[first:Position(l, w.To)] {
			run := api.Window{From: max(x.At, w.From), To: w.To}
			if next := first + i + 1; next < len(l) {
				run.To = min(l[next].At, w.To)
			}
			if x.Quality <= worst && !yield(x.Value, run) {
				return
			}
		}
	}
}

// Key reports whether s is a key.
func Key(s string) bool {
	if s == "" || len(s) > api.MaxName || !small(s[0]) {
		return false
	}
	for i := range len(s) {
		c := s[i]
		if !small(c) && (c < '0' || c > '9') && c != '-' && c != '_' {
			return false
		}
	}
	return true
}

func small(c byte) bool { return 'a' <= c && c <= 'z' }

// Lowest reports whether f is in lowest terms, with Den above 0.
func Lowest(f api.Fraction) bool {
	return f.Den > 0 && divisor(f.Num, f.Den) == 1
}

// Reduced returns a quotient in lowest terms; divided by a number above 0.
func Reduced(number, by int) api.Fraction {
	d := divisor(number, by)
	return api.Fraction{Num: number / d, Den: by / d}
}

// divisor returns the greatest common divisor of a number and one above 0.
func divisor(a, b int) int {
	for b != 0 {
		a, b = b, a%b
	}
	// A remainder keeps its sign up to here: the least int has no absolute value to begin with.
	return max(a, -a)
}

// Distance returns by how much two numbers differ, if that is an int.
func Distance(a, b int) int { return max(a-b, b-a) }

// Floor returns a fraction, rounded down.
func Floor(f api.Fraction) int {
	whole := f.Num / f.Den
	if f.Num%f.Den < 0 {
		whole--
	}
	return whole
}

// Thousandths returns how many thousandths a fraction is, rounded down. It takes the whole and the rest apart, as 1000 times the numerator may be greater than the greatest int.
func Thousandths(f api.Fraction) int {
	whole := Floor(f)
	return 1000*whole + 1000*(f.Num-whole*f.Den)/f.Den
}

// OnLine returns the value at a moment on the straight line between two samples. It is exact: for values up to MaxSkew, all products are below the greatest int.
func OnLine(p, n api.Sample, at int) api.Fraction {
	long := n.At - p.At
	return Reduced(p.Value*long+(n.Value-p.Value)*(at-p.At), long)
}

// Number reads a number as it is written in strings (Z10), of at most `most` digits; false if s is none.
func Number(s string, most int) (int, bool) {
	if len(strings.TrimPrefix(s, "-")) > most {
		return 0, false
	}
	n, err := strconv.Atoi(s)
	if err != nil || strconv.Itoa(n) != s {
		return 0, false
	}
	return n, true
}

// Numbers reads numbers as Number does; false if a word is none.
func Numbers(words []string, most int) ([]int, bool) {
	numbers := make([]int, len(words))
	for i, word := range words {
		n, ok := Number(word, most)
		if !ok {
			return nil, false
		}
		numbers[i] = n
	}
	return numbers, true
}

// ReadLines reads a text; read reads a line of it, and says false if the line has not its form. The int is the number of the line for ErrSyntax.
func ReadLines[T any](text string, read func(line string) (T, bool)) ([]T, int, api.Errno) {
	if len(text) > api.MaxText {
		return nil, 0, api.ErrLarge
	}
	var list []T
	for text != "" {
		line, rest, ended := strings.Cut(text, "\n")
		x, ok := read(line)
		if !ended || !ok {
			return nil, len(list), api.ErrSyntax
		}
		list = append(list, x)
		text = rest
	}
	return list, 0, api.OK
}

// CheckKeyed says what is wrong with a list of at most `most` elements that rise by their keys; check says what else is wrong with one.
func CheckKeyed[T any](l []T, most int, key func(x T) string, check func(x T) api.Errno) api.Errno {
	if len(l) > most {
		return api.ErrLarge
	}
	for i, x := range l {
		if !Key(key(x)) {
			return api.ErrName
		}
		if i > 0 && key(x) <= key(l[i-1]) {
			return api.ErrOrder
		}
		if e := check(x); e != api.OK {
			return e
		}
	}
	return api.OK
}

// CheckAllSeries says what is wrong with series of tags; check says it of the samples of one.
func CheckAllSeries(s []api.Series, check func(l []api.Sample) api.Errno) api.Errno {
	tag := func(x api.Series) string { return x.Tag }
	return CheckKeyed(s, api.MaxTags, tag, func(x api.Series) api.Errno { return check(x.Samples) })
}

// CheckParents says what is wrong with parents, each by the key of what it is the parent of; an empty one is none.
func CheckParents(parents map[string]string) api.Errno {
	for _, parent := range parents {
		if _, ok := parents[parent]; parent != "" && !ok {
			return api.ErrNone
		}
	}
	for key := range parents {
		steps := 0
		for above := parents[key]; above != ""; above = parents[above] {
			steps++
			// Who has more parents above than there are keys goes round in a loop.
			if steps > len(parents) {
				return api.ErrLoop
			}
		}
	}
	return api.OK
}

// ByTag returns the samples of each tag.
func ByTag(s []api.Series) map[string][]api.Sample {
	samples := map[string][]api.Sample{}
	for _, x := range s {
		samples[x.Tag] = x.Samples
	}
	return samples
}

// Align goes through two lists that rise by order: in this order, it calls one for each element that has no equal one in the other list, and both for two equal ones, that of a first.
func Align[T any](a, b []T, order func(x, y T) int, one func(x T), both func(x, y T)) {
	for len(a) > 0 && len(b) > 0 {
		c := order(a[0], b[0])
		switch {
		case c < 0:
			one(a[0])
			a = a[1:]
		case c > 0:
			one(b[0])
			b = b[1:]
		default:
			both(a[0], b[0])
			a, b = a[1:], b[1:]
		}
	}
	for _, x := range a {
		one(x)
	}
	for _, x := range b {
		one(x)
	}
}
