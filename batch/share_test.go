package batch_test

import (
	"fmt"
	"math"
	"math/big"
	"math/rand"
	"slices"
	"strings"
	"testing"
	"time"

	"plantlog/api"
	"plantlog/batch"
)

func part(num, den int) api.Fraction { return api.Fraction{Num: num, Den: den} }

func TestP84Share(t *testing.T) {
	l := moved("a c 30", "b c 10", "c d 5", "d f 1", "e f 2", "x y 7")
	for pair, want := range map[string]api.Fraction{
		"d a": part(3, 4), // the example
		"d b": part(1, 4),
		"d c": part(1, 1),
		"d d": part(1, 1),
		"d e": part(0, 1),
		"c a": part(3, 4),
		"c c": part(1, 1),
		"c d": part(0, 1),
		"a a": part(1, 1),
		"a d": part(0, 1),
		"f a": part(1, 4),
		"f b": part(1, 12),
		"f c": part(1, 3),
		"f d": part(1, 3),
		"f e": part(2, 3),
		"f x": part(0, 1),
		"y x": part(1, 1),
		"o a": part(0, 1),
		"a o": part(0, 1),
		"o o": part(1, 1),
		"o p": part(0, 1),
	} {
		name, source, _ := strings.Cut(pair, " ")
		got, e := batch.Share(l, name, source)
		same(t, pair, []any{got, e}, []any{want, api.OK})
	}
	got, e := batch.Share(nil, "a", "a")
	same(t, "without transfers", []any{got, e}, []any{part(1, 1), api.OK})
	// b takes part in two ways: 1 of 2 in c, and 1 of 4, and half of 3 of 4, in d.
	got, e = batch.Share(moved("a c 1", "b c 1", "b d 1", "c d 3"), "d", "b")
	same(t, "two ways", []any{got, e}, []any{part(5, 8), api.OK})
	got, e = batch.Share(chain(api.MaxTransfers), "b0500", "b0000")
	same(t, "a long way", []any{got, e}, []any{part(1, 1), api.OK})
}

func TestP84ShareErrors(t *testing.T) {
	for name, c := range wrongTransfers {
		got, e := batch.Share(c.l, "A", "")
		same(t, name, []any{got, e}, []any{api.Fraction{}, c.want})
	}
	for _, pair := range [][2]string{{"A", "a"}, {"a", "A"}, {"", "a"}, {"a", ""}, {longKey + "z", "a"}, {"a", "a b"}, {"A", "A"}} {
		got, e := batch.Share(moved("a b 1"), pair[0], pair[1])
		same(t, fmt.Sprintf("%q", pair), []any{got, e}, []any{api.Fraction{}, api.ErrName})
	}
}

// fine has batches with fine scales: b and c have 1,000,000, d (of b and another) and e (of b and c) have 1,000,000,000,000, and f, g and h more.
var fine = sorted(moved(
	"a b 999999", "o b 1", "a c 1", "p c 999999",
	"b d 500001", "q d 499999",
	"b e 1", "c e 999999",
	"b f 500000", "r f 500001",
	"d g 1", "s g 1",
	"f h 1",
))

func TestP84ScaleOfShare(t *testing.T) {
	for pair, want := range map[string]api.Fraction{
		"b a": part(999_999, 1_000_000),
		"c p": part(999_999, 1_000_000),
		"d a": part(500_001*999_999, 1_000_000_000_000),
		"d o": part(500_001, 1_000_000_000_000),
		"d d": part(1, 1),
		"d x": part(0, 1),
		"e a": part(999_999+999_999, 1_000_000_000_000),
		"e o": part(1, 1_000_000_000_000),
		"e e": part(1, 1),
	} {
		name, source, _ := strings.Cut(pair, " ")
		got, e := batch.Share(fine, name, source)
		lowest := big.NewRat(int64(want.Num), int64(want.Den))
		want = part(int(lowest.Num().Int64()), int(lowest.Denom().Int64()))
		same(t, pair, []any{got, e}, []any{want, api.OK})
	}
	for _, name := range []string{"f", "g", "h"} {
		for _, source := range []string{"a", "b", "f", "x", name} {
			got, e := batch.Share(fine, name, source)
			same(t, source+" in "+name, []any{got, e}, []any{api.Fraction{}, api.ErrFull})
		}
	}
	got, e := batch.Share(fine, "f", "F")
	same(t, "no name, and too fine a scale", []any{got, e}, []any{api.Fraction{}, api.ErrName})
	// The amounts are 500,000,000 together, and those of the batch that is one of 500 sources.
	var wide transfers
	for i := range api.MaxTransfers - 3 {
		wide = append(wide, transfer(fmt.Sprintf("a%04d", i), "m", api.MaxAmount))
	}
	wide = append(wide, transfer("m", "n", 1999), transfer("o", "n", 1))
	got, e = batch.Share(wide, "n", "m")
	same(t, "many amounts", []any{got, e}, []any{part(1999, 2000), api.OK})
	wide[len(wide)-1].Amount = 14
	got, e = batch.Share(wide, "n", "a0000")
	same(t, "too many amounts", []any{got, e}, []any{api.Fraction{}, api.ErrFull})
	wide[len(wide)-1].Amount = 13
	got, e = batch.Share(wide, "n", "a0000")
	same(t, "not too many amounts", []any{got, e}, []any{part(1999, 497*2012), api.OK})
	// The scale of m is 10,001; 99,990,001 times this is 1 more than what can be.
	exact := moved("a m 10000", "o m 1", "m n 1", "s n 990000")
	for i := range 99 {
		exact = append(exact, transfer(fmt.Sprintf("t%d", i), "n", api.MaxAmount))
	}
	got, e = batch.Share(sorted(exact), "n", "m")
	same(t, "1 too many", []any{got, e}, []any{api.Fraction{}, api.ErrFull})
	exact = slices.DeleteFunc(exact, func(x api.Transfer) bool { return x.From == "s" })
	got, e = batch.Share(append(sorted(exact), transfer("z", "n", 989_999)), "n", "m")
	same(t, "1 less", []any{got, e}, []any{part(1, 99_990_000), api.OK})
}

func TestP84ManyWays(t *testing.T) {
	start := time.Now()
	name := func(i int) string { return fmt.Sprintf("b%02d", i) }
	// Each batch gets 1 of the one before, and 1 of the one before that: the scales are doubled.
	var l transfers
	for i := 2; i <= 41; i++ {
		l = append(l, transfer(name(i-2), name(i), 1), transfer(name(i-1), name(i), 1))
	}
	sorted(l)
	got, e := batch.Share(l, name(40), name(0))
	same(t, "a Share over many ways", []any{got, e}, []any{part((1<<39+1)/3, 1<<39), api.OK})
	got, e = batch.Share(l, name(41), name(0))
	same(t, "a batch more", []any{got, e}, []any{api.Fraction{}, api.ErrFull})
	// Each batch gets of all before it.
	l = nil
	for i := range 32 {
		for k := range i {
			l = append(l, transfer(name(k), name(i), 1))
		}
	}
	got, e = batch.Share(sorted(l), name(31), name(0))
	same(t, "a Share over very many ways", []any{got, e}, []any{api.Fraction{}, api.ErrFull})
	list, e := batch.Recall(l, name(0), part(0, 1))
	same(t, "Recall over very many ways", []any{list, e}, []any{"[]", api.ErrFull})
	if time.Since(start) > 10*time.Second {
		t.Errorf("after %v", time.Since(start))
	}
}

// model has what the document says of batches, with numbers without bounds.
type model struct {
	l     transfers
	known map[string]*big.Rat
}

func modelOf(l transfers) model { return model{l, map[string]*big.Rat{}} }

func (m model) into(name string) transfers {
	return slices.DeleteFunc(slices.Clone(m.l), func(x api.Transfer) bool { return x.To != name })
}

func amounts(l transfers) *big.Int {
	sum := new(big.Int)
	for _, x := range l {
		sum.Add(sum, big.NewInt(int64(x.Amount)))
	}
	return sum
}

func (m model) scale(name string) *big.Int {
	into := m.into(name)
	if len(into) == 0 {
		return big.NewInt(1)
	}
	multiple := big.NewInt(1)
	for _, x := range into {
		scale := m.scale(x.From)
		divisor := new(big.Int).GCD(nil, nil, multiple, scale)
		multiple.Mul(multiple, scale).Quo(multiple, divisor)
	}
	return multiple.Mul(multiple, amounts(into))
}

func (m model) tooFine(name string) bool {
	return m.scale(name).Cmp(big.NewInt(1_000_000_000_000)) > 0
}

func (m model) share(name, source string) *big.Rat {
	if name == source {
		return big.NewRat(1, 1)
	}
	if known := m.known[name+" "+source]; known != nil {
		return known
	}
	into, sum := m.into(name), new(big.Rat)
	for _, x := range into {
		sum.Add(sum, new(big.Rat).Mul(big.NewRat(int64(x.Amount), 1), m.share(x.From, source)))
	}
	if len(into) > 0 {
		sum.Quo(sum, new(big.Rat).SetInt(amounts(into)))
	}
	m.known[name+" "+source] = sum
	return sum
}

// someRecipe returns some transfers, with amounts that give scales on both sides of the greatest one.
func someRecipe(r *rand.Rand) (transfers, int) {
	n := 2 + r.Intn(8)
	return someTransfers(r, n, []int{2, 5, 1000, api.MaxAmount}[r.Intn(4)]), n
}

func TestP84ShareAsTheDocumentSays(t *testing.T) {
	r := rand.New(rand.NewSource(100))
	count := map[api.Errno]int{}
	for range 400 {
		l, n := someRecipe(r)
		m := modelOf(l)
		for i := range n * n {
			name, source := fmt.Sprint("b", i/n), fmt.Sprint("b", i%n)
			want, e := part(0, 0), api.ErrFull
			if !m.tooFine(name) {
				share := m.share(name, source)
				want, e = part(int(share.Num().Int64()), int(share.Denom().Int64())), api.OK
			}
			count[e]++
			got, gotE := batch.Share(l, name, source)
			same(t, fmt.Sprintf("%s in %s of %v", source, name, l), []any{got, gotE}, []any{want, e})
		}
	}
	if count[api.OK] < 1000 || count[api.ErrFull] < 1000 {
		t.Errorf("%v", count)
	}
}

// TestP84SharesAddUp: the Shares of all batches into which nothing was transferred add up to 1.
func TestP84SharesAddUp(t *testing.T) {
	r := rand.New(rand.NewSource(101))
	for range 300 {
		l, n := someRecipe(r)
		m := modelOf(l)
		for i := range n {
			sum, name := new(big.Rat), fmt.Sprint("b", i)
			for k := range n {
				source := fmt.Sprint("b", k)
				if len(m.into(source)) > 0 || m.tooFine(name) {
					continue
				}
				got, e := batch.Share(l, name, source)
				same(t, "Share", e, api.OK)
				sum.Add(sum, big.NewRat(int64(got.Num), int64(got.Den)))
			}
			if !m.tooFine(name) {
				same(t, "all Shares in "+name, sum, big.NewRat(1, 1))
			}
		}
	}
}

func TestP84Recall(t *testing.T) {
	l := moved("a c 30", "b c 10", "c d 5", "c e 1", "a e 1", "b z 3", "x y 7")
	for name, c := range map[string]struct {
		batch string
		least api.Fraction
		want  []string
	}{
		"all":                      {"a", part(0, 1), []string{"e", "c", "d"}},
		"exactly enough":           {"a", part(3, 4), []string{"e", "c", "d"}},
		"a little more":            {"a", part(750_001, 1_000_000), []string{"e"}},
		"a little less":            {"a", part(874_999, 1_000_000), []string{"e"}},
		"7/8":                      {"a", part(7, 8), []string{"e"}},
		"more than there is":       {"a", part(8, 9), nil},
		"a whole one":              {"b", part(1, 1), []string{"z"}},
		"b":                        {"b", part(0, 1), []string{"z", "c", "d", "e"}},
		"b, a quarter":             {"b", part(1, 4), []string{"z", "c", "d"}},
		"b, an eighth":             {"b", part(1, 8), []string{"z", "c", "d", "e"}},
		"c":                        {"c", part(0, 1), []string{"d", "e"}},
		"c, half":                  {"c", part(1, 2), []string{"d", "e"}},
		"no products":              {"d", part(0, 1), nil},
		"a batch that is not used": {"other", part(0, 1), nil},
	} {
		got, e := batch.Recall(sorted(l), c.batch, c.least)
		same(t, name, []any{got, e}, []any{c.want, api.OK})
	}
}

func TestP84RecallErrors(t *testing.T) {
	wrong := part(2, 4)
	for name, c := range wrongTransfers {
		got, e := batch.Recall(c.l, "A", wrong)
		same(t, name, []any{got, e}, []any{"[]", c.want})
	}
	for _, name := range []string{"", "A", "a b", longKey + "z"} {
		got, e := batch.Recall(fine, name, wrong)
		same(t, fmt.Sprintf("of %q", name), []any{got, e}, []any{"[]", api.ErrName})
	}
	for _, c := range []struct {
		least api.Fraction
		want  api.Errno
	}{
		{part(0, 0), api.ErrForm},
		{part(1, 0), api.ErrForm},
		{part(0, 2), api.ErrForm},
		{part(2, 4), api.ErrForm},
		{part(1, -2), api.ErrForm},
		{part(-1, -2), api.ErrForm},
		{part(4, 2), api.ErrForm},
		{part(math.MinInt, math.MinInt), api.ErrForm},
		{part(math.MaxInt, math.MaxInt), api.ErrForm},
		{part(0, api.MaxAmount+1), api.ErrForm},
		{part(-1, 2), api.ErrArg},
		{part(math.MinInt, 1), api.ErrArg},
		{part(3, 2), api.ErrArg},
		{part(2, 1), api.ErrArg},
		{part(math.MaxInt, 1), api.ErrArg},
		{part(math.MaxInt-1, math.MaxInt), api.ErrArg},
		{part(1, math.MaxInt), api.ErrArg},
		{part(1, api.MaxAmount+1), api.ErrArg},
		{part(api.MaxAmount+1, api.MaxAmount), api.ErrArg},
		{part(-1, api.MaxAmount+1), api.ErrArg},
		{part(0, 1), api.ErrFull},
		{part(1, 1), api.ErrFull},
		{part(api.MaxAmount-1, api.MaxAmount), api.ErrFull},
	} {
		got, e := batch.Recall(fine, "a", c.least)
		same(t, fmt.Sprint("at least ", c.least), []any{got, e}, []any{"[]", c.want})
	}
	for name, want := range map[string]api.Errno{"a": api.ErrFull, "b": api.ErrFull, "d": api.ErrFull, "f": api.ErrFull, "p": api.OK, "c": api.OK, "e": api.OK, "h": api.OK} {
		_, e := batch.Recall(fine, name, part(1, 1))
		same(t, "all of "+name, e, want)
	}
}

// TestP84RecallComparesExactly: the Shares of m and n, and those of w and x, differ by about 1 in 10^12, and what is compared has more than 64 bits.
func TestP84RecallComparesExactly(t *testing.T) {
	l := sorted(moved(
		"a m 500000", "o m 499999", "m x 999999", "p x 1",
		"a n 499999", "o n 499998", "n w 999999", "p w 1",
	))
	got, e := batch.Recall(l, "a", part(0, 1))
	same(t, "by Share", []any{got, e}, []any{"[n m w x]", api.OK})
	got, e = batch.Recall(l, "m", part(999_999, 1_000_000))
	same(t, "exactly enough", []any{got, e}, []any{"[x]", api.OK})
}

// recallAsTheDocumentSays returns those of some names, sorted, of which enough comes from a source.
func recallAsTheDocumentSays(m model, names []string, source string, least api.Fraction) []string {
	enough := slices.DeleteFunc(slices.Clone(names), func(name string) bool {
		return m.share(name, source).Cmp(big.NewRat(int64(least.Num), int64(least.Den))) < 0
	})
	slices.SortStableFunc(enough, func(x, y string) int { return m.share(y, source).Cmp(m.share(x, source)) })
	return enough
}

func TestP84RecallAsTheDocumentSays(t *testing.T) {
	r := rand.New(rand.NewSource(102))
	count := map[api.Errno]int{}
	for range 1500 {
		l, n := someRecipe(r)
		m, name := modelOf(l), fmt.Sprint("b", r.Intn(n))
		products, e := batch.Products(l, name)
		same(t, "Products", e, api.OK)
		least := part(r.Intn(2), 1)
		if len(products) > 0 && r.Intn(3) > 0 {
			share := m.share(products[r.Intn(len(products))], name)
			if share.Denom().Cmp(big.NewInt(api.MaxAmount)) <= 0 {
				least = part(int(share.Num().Int64()), int(share.Denom().Int64()))
			}
		}
		want, wantE := []string(nil), api.ErrFull
		if !slices.ContainsFunc(products, m.tooFine) {
			want, wantE = recallAsTheDocumentSays(m, products, name, least), api.OK
		}
		count[wantE]++
		got, e := batch.Recall(l, name, least)
		same(t, fmt.Sprintf("%v of %s in %v", least, name, l), []any{got, e}, []any{want, wantE})
	}
	if count[api.OK] < 300 || count[api.ErrFull] < 100 {
		t.Errorf("%v", count)
	}
}
