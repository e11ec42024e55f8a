package compress

import "plantlog/api"

// Fits reports whether kept samples fit a door.
func Fits(d api.Door, l []api.Sample, kept []int) (bool, api.Errno) {
	if e := CheckDoor(d); e != api.OK {
		return false, e
	}
	if e := checkKept(l, kept); e != api.OK {
		return false, e
	}
	if len(l) == 0 {
		return true, api.OK
	}
	if len(kept) == 0 || kept[0] != 0 || kept[len(kept)-1] != len(l)-1 {
		return false, api.OK
	}
	for i, k := range kept[1:] {
		if !spans(d, l[kept[i]:k+1]) {
			return false, api.OK
		}
	}
	return true, api.OK
}

// spans reports whether the first and the last one of two or more samples can do without those between.
func spans(d api.Door, l []api.Sample) bool {
	fits := false
	eachNext(d, l, func(i int) { fits = i == len(l)-1 })
	return fits
}

// eachNext calls found, in order, for the index of each sample that can be the next kept one after the first one.
func eachNext(d api.Door, l []api.Sample, found func(i int)) {
	s := newSpan(d, l[0])
	for i, x := range l {
		if i > 0 && s.add(x) {
			found(i)
		}
	}
}

// Minimum returns the fewest samples that fit a door.
func Minimum(d api.Door, l []api.Sample) ([]int, api.Errno) {
	if e := checkBoth(d, l); e != api.OK {
		return nil, e
	}
	if len(l) > api.MaxOptimal {
		return nil, api.ErrLarge
	}
	var kept []int
	next := shortest(d, l)
	for i := 0; i < len(l); i = next[i] {
		kept = append(kept, i)
	}
	return kept, api.OK
}

// shortest returns, for each sample, the first of those that can be kept next to it so that the fewest ones follow; len(l) for the last one.
func shortest(d api.Door, l []api.Sample) []int {
	follow := make([]int, len(l))
	next := make([]int, len(l))
	for i := len(l) - 1; i >= 0; i-- {
		next[i] = len(l)
		eachNext(d, l[i:], func(j int) {
			j += i
			if next[i] == len(l) || follow[j]+1 < follow[i] {
				next[i], follow[i] = j, follow[j]+1
			}
		})
	}
	return next
}
