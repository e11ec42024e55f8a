package batch

import (
	"cmp"
	"math/bits"
	"slices"
	"strings"

	"plantlog/api"
	"plantlog/basic"
)

// maxScale is the greatest scale of a batch with which Shares are computed.
const maxScale = 1_000_000_000_000

// mix is what a batch consists of: so many parts of its scale come from a source. If the scale is too great, it is maxScale + 1, without parts.
type mix struct{ scale, parts int }

func (m mix) tooFine() bool { return m.scale > maxScale }

// mixes returns what says of each batch how much comes from a source. It remembers what it said, as a batch can go into many others.
func (f flow) mixes(source string) func(batch string) mix {
	known := map[string]mix{}
	var mixOf func(batch string) mix
	mixOf = func(batch string) mix {
		m, ok := known[batch]
		if !ok {
			m = mixed(f.into[batch], mixOf)
			if batch == source && !m.tooFine() {
				m.parts = m.scale
			}
			known[batch] = m
		}
		return m
	}
	return mixOf
}

// mixed returns what comes of transfers into one batch.
func mixed(into []api.Transfer, mixOf func(batch string) mix) mix {
	if len(into) == 0 {
		return mix{scale: 1}
	}
	total, multiple := 0, 1
	for _, x := range into {
		total += x.Amount
		multiple = commonMultiple(multiple, mixOf(x.From).scale)
	}
	m := mix{scale: scaleOf(total, multiple)}
	if m.tooFine() {
		return m
	}
	for _, x := range into {
		part := mixOf(x.From)
		m.parts += x.Amount * part.parts * (multiple / part.scale)
	}
	return m
}

// commonMultiple returns the least common multiple of two scales; maxScale + 1 if it is greater than maxScale.
func commonMultiple(a, b int) int {
	return scaleOf(basic.Reduced(a, b).Num, b)
}

// scaleOf returns the product of two numbers above 0; maxScale + 1 if it is greater than maxScale.
func scaleOf(a, b int) int {
	if a > maxScale/b {
		return maxScale + 1
	}
	return a * b
}

// Share returns the part of a batch that comes from a source.
func Share(t []api.Transfer, batch, source string) (api.Fraction, api.Errno) {
	f, e := trace(t, batch, source)
	if e != api.OK {
		return api.Fraction{}, e
	}
	m := f.mixes(source)(batch)
	if m.tooFine() {
		return api.Fraction{}, api.ErrFull
	}
	return basic.Reduced(m.parts, m.scale), api.OK
}

// Recall returns the products that have enough of a batch.
func Recall(t []api.Transfer, batch string, least api.Fraction) ([]string, api.Errno) {
	f, e := trace(t, batch)
	switch {
	case e != api.OK:
		return nil, e
	case !basic.Lowest(least):
		return nil, api.ErrForm
	case !basic.Within(least.Num, 0, least.Den) || least.Den > api.MaxAmount:
		return nil, api.ErrArg
	}
	mixOf, products := f.mixes(batch), f.products(batch)
	tooFine := func(product string) bool { return mixOf(product).tooFine() }
	if slices.ContainsFunc(products, tooFine) {
		return nil, api.ErrFull
	}
	products = slices.DeleteFunc(products, func(product string) bool {
		m := mixOf(product)
		return m.parts*least.Den < least.Num*m.scale
	})
	slices.SortFunc(products, func(x, y string) int {
		return cmp.Or(byShare(mixOf(y), mixOf(x)), strings.Compare(x, y))
	})
	return products, api.OK
}

// byShare compares two batches by their Shares. The products can be greater than the greatest int.
func byShare(x, y mix) int {
	high, low := bits.Mul64(uint64(x.parts), uint64(y.scale))
	otherHigh, otherLow := bits.Mul64(uint64(y.parts), uint64(x.scale))
	return cmp.Or(cmp.Compare(high, otherHigh), cmp.Compare(low, otherLow))
}
