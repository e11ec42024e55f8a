package block

import (
	"slices"

	"plantlog/api"
	"plantlog/basic"
)

// successive returns a function that decodes the block at an offset, if it follows the blocks of its tag that the function decoded before.
func successive(file []byte) func(at int) (api.Block, []api.Sample, api.Errno) {
	last := map[string]int{}
	return func(at int) (api.Block, []api.Sample, api.Errno) {
		x, l, e := Decode(file, at)
		if e != api.OK || x.Overflow {
			return x, l, e
		}
		if before, ok := last[x.Tag]; ok && x.First <= before {
			return api.Block{}, nil, api.ErrOrder
		}
		last[x.Tag] = x.Last
		return x, l, api.OK
	}
}

// walk calls see for the blocks of a file in order, up to the first error.
func walk(file []byte, see func(x api.Block, l []api.Sample)) api.Errno {
	decode := successive(file)
	for at := 0; at < len(file); {
		x, l, e := decode(at)
		if e != api.OK {
			return e
		}
		see(x, l)
		at += x.Long
	}
	return api.OK
}

// search calls see for the blocks of a tag with a time in a window.
func search(file []byte, tag string, w api.Window, see func(x api.Block, l []api.Sample)) api.Errno {
	e := walk(file, func(x api.Block, l []api.Sample) {
		if x.Tag == tag && max(x.First, w.From) < min(x.Last+1, w.To) {
			see(x, l)
		}
	})
	switch {
	case e != api.OK:
		return e
	case !basic.Key(tag):
		return api.ErrName
	case !basic.Window(w):
		return api.ErrArg
	}
	return api.OK
}

// Append appends samples of a tag.
func Append(file []byte, tag string, l []api.Sample) ([]byte, api.Errno) {
	last := -1
	e := walk(file, func(x api.Block, _ []api.Sample) {
		if x.Tag == tag && !x.Overflow {
			last = x.Last
		}
	})
	if e != api.OK {
		return nil, e
	}
	if e := checkTagged(tag, l); e != api.OK {
		return nil, e
	}
	late := 0
	for late < len(l) && l[late].At <= last {
		late++
	}
	longer := appendBlocks(slices.Clone(file), tag, l[:late], true)
	return checkRoom(appendBlocks(longer, tag, l[late:], false))
}

func checkRoom(file []byte) ([]byte, api.Errno) {
	if len(file) > api.MaxFile {
		return nil, api.ErrFull
	}
	return file, api.OK
}

// Index returns what is to say of all blocks.
func Index(file []byte) ([]api.Block, api.Errno) {
	var index []api.Block
	e := walk(file, func(x api.Block, _ []api.Sample) { index = append(index, x) })
	if e != api.OK {
		return nil, e
	}
	return index, api.OK
}

// Find returns the blocks of a tag that have a time in a window.
func Find(file []byte, tag string, w api.Window) ([]api.Block, api.Errno) {
	var found []api.Block
	e := search(file, tag, w, func(x api.Block, _ []api.Sample) { found = append(found, x) })
	if e != api.OK {
		return nil, e
	}
	return found, api.OK
}

// Query returns the samples of a tag in a window.
func Query(file []byte, tag string, w api.Window) ([]api.Sample, api.Errno) {
	var all []api.Sample
	e := search(file, tag, w, func(_ api.Block, l []api.Sample) {
		for _, x := range l {
			if basic.Inside(x.At, w) {
				all = append(all, x)
			}
		}
	})
	if e != api.OK {
		return nil, e
	}
	return latest(all)
}

// latest returns samples that come in the order of their blocks as a series; of those at one moment, the one in the last block. It takes the memory of all.
func latest(all []api.Sample) ([]api.Sample, api.Errno) {
	slices.Reverse(all)
	slices.SortStableFunc(all, basic.ByMoment)
	l := slices.CompactFunc(all, func(x, y api.Sample) bool { return x.At == y.At })
	if len(l) > api.MaxSamples {
		return nil, api.ErrLarge
	}
	return l, api.OK
}

// Tags returns all tags.
func Tags(file []byte) ([]string, api.Errno) {
	var tags []string
	e := walk(file, func(x api.Block, _ []api.Sample) { tags = append(tags, x.Tag) })
	if e != api.OK {
		return nil, e
	}
	slices.Sort(tags)
	return slices.Compact(tags), api.OK
}
