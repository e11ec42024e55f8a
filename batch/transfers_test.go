package batch_test

import (
	"fmt"
	"maps"
	"math"
	"math/rand"
	"slices"
	"strings"
	"testing"

	"plantlog/api"
	"plantlog/batch"
)

func transfer(from, to string, amount int) api.Transfer {
	return api.Transfer{From: from, To: to, Amount: amount}
}

// moved returns transfers from words: from which batch, to which one, and how much.
func moved(lines ...string) transfers {
	var l transfers
	for _, line := range lines {
		var x api.Transfer
		fmt.Sscan(line, &x.From, &x.To, &x.Amount)
		l = append(l, x)
	}
	return l
}

// sorted returns transfers in order.
func sorted(l transfers) transfers {
	slices.SortFunc(l, func(x, y api.Transfer) int {
		if x.From != y.From {
			return strings.Compare(x.From, y.From)
		}
		return strings.Compare(x.To, y.To)
	})
	return l
}

// chain returns n transfers of 1, each into the batch from which the next one is.
func chain(n int) transfers {
	l := make(transfers, n)
	for i := range l {
		l[i] = transfer(fmt.Sprintf("b%04d", i), fmt.Sprintf("b%04d", i+1), 1)
	}
	return l
}

// reverse returns a chain whose transfers come in the other order.
func reverse(n int) transfers {
	l := chain(n)
	for i := range l {
		l[i].From, l[i].To = l[i].To, l[i].From
	}
	return l
}

var longKey = strings.Repeat("z", api.MaxName)

// wrongTransfers has wrong lists of transfers.
var wrongTransfers = map[string]struct {
	l    transfers
	want api.Errno
}{
	"too many":                     {make(transfers, api.MaxTransfers+1), api.ErrLarge},
	"too many, though all is well": {chain(api.MaxTransfers + 1), api.ErrLarge},
	"as many as can be, wrong":     {make(transfers, api.MaxTransfers), api.ErrName},
	"no From":                      {transfers{transfer("", "b", 1)}, api.ErrName},
	"no To":                        {transfers{transfer("a", "", 1)}, api.ErrName},
	"From is no key":               {transfers{transfer("A", "b", 1)}, api.ErrName},
	"To is no key":                 {transfers{transfer("a", "1b", 1)}, api.ErrName},
	"From is too long":             {transfers{transfer(longKey+"z", "b", 1)}, api.ErrName},
	"To is too long":               {transfers{transfer("a", longKey+"z", 1)}, api.ErrName},
	"both are equal, and no keys":  {transfers{transfer("A", "A", 1)}, api.ErrName},
	"both are equal":               {transfers{transfer("a", "a", 1)}, api.ErrForm},
	"both are equal, no Amount":    {transfers{transfer("a", "a", 0)}, api.ErrForm},
	"no Amount":                    {transfers{transfer("a", "b", 0)}, api.ErrArg},
	"an Amount below 0":            {transfers{transfer("a", "b", -1)}, api.ErrArg},
	"an Amount too great":          {transfers{transfer("a", "b", api.MaxAmount+1)}, api.ErrArg},
	"the least Amount":             {transfers{transfer("a", "b", math.MinInt)}, api.ErrArg},
	"the greatest Amount":          {transfers{transfer("a", "b", math.MaxInt)}, api.ErrArg},
	"the same again":               {moved("a b 1", "a b 2"), api.ErrOrder},
	"a lesser To":                  {moved("a c 1", "a b 2"), api.ErrOrder},
	"a lesser From":                {moved("b c 1", "a d 2"), api.ErrOrder},
	"a lesser From, no Amount":     {moved("b c 1", "a d 0"), api.ErrArg},
	"a lesser From, then no key":   {moved("b c 1", "a d 1", "A e 1"), api.ErrOrder},
	"a wrong order, and a loop":    {moved("b a 1", "a b 1"), api.ErrOrder},
	"there and back":               {moved("a b 1", "b a 1"), api.ErrLoop},
	"three":                        {moved("a b 1", "b c 1", "c a 1"), api.ErrLoop},
	"a loop after others":          {moved("a b 1", "b c 1", "c d 1", "d c 1"), api.ErrLoop},
	"a loop before others":         {moved("a b 1", "b a 1", "b c 1", "c d 1"), api.ErrLoop},
	"a loop apart from others":     {moved("a b 1", "x y 1", "y x 1"), api.ErrLoop},
	"a loop of all":                {sorted(append(chain(api.MaxTransfers-1), transfer("b0499", "b0000", 1))), api.ErrLoop},
}

func TestP84CheckTransfers(t *testing.T) {
	for name, c := range wrongTransfers {
		same(t, name, batch.CheckTransfers(c.l), c.want)
	}
	for name, l := range map[string]transfers{
		"none":              nil,
		"one":               moved("a b 1"),
		"two from one":      moved("a b 1", "a c 1000000"),
		"two into one":      moved("a c 1", "b c 1"),
		"two ways":          moved("a b 1", "a c 1", "b c 1"),
		"a diamond":         moved("a b 1", "a c 1", "b d 1", "c d 1"),
		"against the order": moved("b a 1", "c b 1"),
		"long keys":         {transfer("a-1_", longKey, 1)},
		"as many as can be": chain(api.MaxTransfers),
	} {
		same(t, name, batch.CheckTransfers(l), api.OK)
	}
}

func TestP84SourcesAndProducts(t *testing.T) {
	l := moved("a c 30", "b c 10", "c d 5", "c e 1", "e d 1", "x y 7")
	for name, c := range map[string]struct{ sources, products []string }{
		"a":     {nil, []string{"c", "d", "e"}},
		"b":     {nil, []string{"c", "d", "e"}},
		"c":     {[]string{"a", "b"}, []string{"d", "e"}},
		"d":     {[]string{"a", "b", "c", "e"}, nil},
		"e":     {[]string{"a", "b", "c"}, []string{"d"}},
		"x":     {nil, []string{"y"}},
		"y":     {[]string{"x"}, nil},
		"other": {nil, nil},
	} {
		got, e := batch.Sources(l, name)
		same(t, "the sources of "+name, []any{got, e}, []any{c.sources, api.OK})
		got, e = batch.Products(l, name)
		same(t, "the products of "+name, []any{got, e}, []any{c.products, api.OK})
	}
	got, e := batch.Sources(reverse(3), "b0000")
	same(t, "sources, sorted", []any{got, e}, []any{"[b0001 b0002 b0003]", api.OK})
	got, e = batch.Products(reverse(3), "b0003")
	same(t, "products, sorted", []any{got, e}, []any{"[b0000 b0001 b0002]", api.OK})
	got, e = batch.Sources(chain(api.MaxTransfers), "b0500")
	same(t, "many sources", []any{len(got), e}, []any{api.MaxTransfers, api.OK})
	got, e = batch.Products(chain(api.MaxTransfers), "b0000")
	same(t, "many products", []any{len(got), e}, []any{api.MaxTransfers, api.OK})
}

func TestP84SourcesAndProductsErrors(t *testing.T) {
	for name, c := range wrongTransfers {
		got, e := batch.Sources(c.l, "A")
		same(t, "Sources, "+name, []any{got, e}, []any{"[]", c.want})
		got, e = batch.Products(c.l, "A")
		same(t, "Products, "+name, []any{got, e}, []any{"[]", c.want})
	}
	for _, name := range []string{"", "A", "1", "a b", longKey + "z"} {
		got, e := batch.Sources(moved("a b 1"), name)
		same(t, "Sources of "+name, []any{got, e}, []any{"[]", api.ErrName})
		got, e = batch.Products(moved("a b 1"), name)
		same(t, "Products of "+name, []any{got, e}, []any{"[]", api.ErrName})
	}
}

// someTransfers returns transfers between n batches, from some to later ones in an order of their own.
func someTransfers(r *rand.Rand, n, amount int) transfers {
	names := r.Perm(n)
	var l transfers
	for i := range n {
		for k := range i {
			if r.Intn(n) < 3 {
				l = append(l, transfer(fmt.Sprint("b", names[k]), fmt.Sprint("b", names[i]), 1+r.Intn(amount)))
			}
		}
	}
	return sorted(l)
}

// closure returns for each batch those of which material went into it, once all steps of two are added.
func closure(l transfers) map[string]map[string]bool {
	into := map[string]map[string]bool{}
	for _, x := range l {
		if into[x.To] == nil {
			into[x.To] = map[string]bool{}
		}
		into[x.To][x.From] = true
	}
	for range l {
		for _, x := range l {
			for name := range into[x.From] {
				into[x.To][name] = true
			}
		}
	}
	return into
}

func TestP84SourcesAndProductsAsTheDocumentSays(t *testing.T) {
	r := rand.New(rand.NewSource(98))
	for range 300 {
		n := 2 + r.Intn(9)
		l := someTransfers(r, n, 9)
		same(t, "CheckTransfers", batch.CheckTransfers(l), api.OK)
		into := closure(l)
		for i := range n {
			name := fmt.Sprint("b", i)
			var products []string
			for other, sources := range into {
				if sources[name] {
					products = append(products, other)
				}
			}
			slices.Sort(products)
			got, e := batch.Sources(l, name)
			same(t, "the sources of "+name, []any{got, e}, []any{slices.Sorted(maps.Keys(into[name])), api.OK})
			got, e = batch.Products(l, name)
			same(t, "the products of "+name, []any{got, e}, []any{products, api.OK})
		}
	}
}

// TestP84LoopsAsTheDocumentSays: there is one if a batch got material of itself.
func TestP84LoopsAsTheDocumentSays(t *testing.T) {
	r := rand.New(rand.NewSource(99))
	count := map[api.Errno]int{}
	for range 2000 {
		n := 2 + r.Intn(6)
		seen := map[string]bool{}
		var l transfers
		for range r.Intn(2 * n) {
			x := transfer(fmt.Sprint("b", r.Intn(n)), fmt.Sprint("b", r.Intn(n)), 1)
			if x.From != x.To && !seen[x.From+x.To] {
				seen[x.From+x.To] = true
				l = append(l, x)
			}
		}
		l = sorted(l)
		want := api.OK
		for name, sources := range closure(l) {
			if sources[name] {
				want = api.ErrLoop
			}
		}
		count[want]++
		same(t, fmt.Sprint(l), batch.CheckTransfers(l), want)
	}
	if count[api.OK] < 300 || count[api.ErrLoop] < 300 {
		t.Errorf("%v", count)
	}
}
