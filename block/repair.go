package block

import (
	"maps"
	"slices"

	"plantlog/api"
)

// Recover returns the longest prefix that is a file.
func Recover(file []byte) ([]byte, int, api.Errno) {
	if len(file) > api.MaxFile {
		return nil, 0, api.ErrLarge
	}
	end := 0
	// Whatever is wrong after the last block that it sees is what is left out.
	walk(file, func(x api.Block, _ []api.Sample) { end = x.Offset + x.Long })
	return slices.Clone(file[:end]), len(file) - end, api.OK
}

// Salvage returns the file of all blocks that can be found.
func Salvage(file []byte) ([]byte, int, api.Errno) {
	if len(file) > api.MaxFile {
		return nil, 0, api.ErrLarge
	}
	var found []byte
	decode := successive(file)
	for at := 0; at < len(file); {
		x, _, e := decode(at)
		if e != api.OK {
			at++
			continue
		}
		found = append(found, file[at:at+x.Long]...)
		at += x.Long
	}
	return found, len(file) - len(found), api.OK
}

// Compact returns a file with the same samples and no overflow blocks.
func Compact(file []byte) ([]byte, api.Errno) {
	all := map[string][]api.Sample{}
	e := walk(file, func(x api.Block, l []api.Sample) { all[x.Tag] = append(all[x.Tag], l...) })
	if e != api.OK {
		return nil, e
	}
	var compact []byte
	for _, tag := range slices.Sorted(maps.Keys(all)) {
		l, e := latest(all[tag])
		if e != api.OK {
			return nil, e
		}
		compact = appendBlocks(compact, tag, l, false)
	}
	return checkRoom(compact)
}

// Size returns the fewest bytes of blocks for samples.
func Size(tag string, l []api.Sample) (int, api.Errno) {
	if e := checkTagged(tag, l); e != api.OK {
		return 0, e
	}
	fewest := make([]int, len(l)+1) // for that many of the first samples
	for end := 1; end <= len(l); end++ {
		fewest[end] = fewestBytes(tag, l[:end], fewest)
	}
	return fewest[len(l)], api.OK
}

// fewestBytes tries all lengths of the last block of samples, if the fewest bytes for fewer of them are known.
func fewestBytes(tag string, l []api.Sample, known []int) int {
	fewest, first := 0, len(l)
	inner := 0 // bytes of the samples in the last block but the first one
	for first > 0 && len(l)-first < api.BlockSamples {
		first--
		block := frameBytes(tag, len(l)-first) + sampleBytes(api.Sample{}, l[first]) + inner
		if first == len(l)-1 || known[first]+block < fewest {
			fewest = known[first] + block
		}
		if first > 0 {
			inner += sampleBytes(l[first-1], l[first])
		}
	}
	return fewest
}

// frameBytes returns how many bytes a block has beside those of its samples.
func frameBytes(tag string, count int) int {
	const magic, kind, sum = 1, 1, 2
	return magic + kind + varintBytes(len(tag)) + len(tag) + varintBytes(count) + sum
}

// sampleBytes returns how many bytes a sample has after another one.
func sampleBytes(before, x api.Sample) int {
	return varintBytes(x.At-before.At) + varintBytes(x.Value-before.Value) + varintBytes(x.Quality)
}
