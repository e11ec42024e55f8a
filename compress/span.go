package compress

import "plantlog/api"

// span is an archived sample, the pivot, and the samples after it. Of these it keeps only which lines from the pivot pass all of them closely enough: a stream can add any number.
type span struct {
	door      api.Door
	pivot     api.Sample
	begun     bool  // there are samples after the pivot
	mixed     bool  // one of them has another quality
	low, high slope // of the lines; any line passes if there are no samples
}

func newSpan(d api.Door, pivot api.Sample) *span {
	return &span{door: d, pivot: pivot}
}

// add adds the next sample, and reports whether it can be the one archived after the pivot, without those between. Bad samples need no rule of their own: they have the value 0, so each line from one to another passes those between.
func (s *span) add(x api.Sample) bool {
	s.mixed = s.mixed || x.Quality != s.pivot.Quality
	fits := !s.begun || s.accepts(x)
	s.narrow(x)
	return fits
}

func (s *span) accepts(x api.Sample) bool {
	line := s.slopeTo(x, 0)
	return !s.mixed && x.At-s.pivot.At <= s.door.MaxGap && !line.below(s.low) && !s.high.below(line)
}

// narrow leaves only the lines that pass x closely enough, too.
func (s *span) narrow(x api.Sample) {
	low, high := s.slopeTo(x, -s.door.Deviation), s.slopeTo(x, s.door.Deviation)
	if !s.begun || s.low.below(low) {
		s.low = low
	}
	if !s.begun || high.below(s.high) {
		s.high = high
	}
	s.begun = true
}

// slopeTo returns the slope of the line from the pivot to a sample moved up.
func (s *span) slopeTo(x api.Sample, up int) slope {
	return slope{x.Value + up - s.pivot.Value, x.At - s.pivot.At}
}

// slope is by how much a line rises in a number of milliseconds above 0.
type slope struct{ rise, time int }

// below compares products instead of quotients to be exact; by the limits, both are far below the greatest int.
func (a slope) below(b slope) bool { return a.rise*b.time < b.rise*a.time }
