package batch

import (
	"cmp"
	"maps"
	"slices"
	"strings"

	"plantlog/api"
	"plantlog/basic"
)

// flow is the transfers into each batch, and those from each one.
type flow struct{ into, from map[string][]api.Transfer }

func flowOf(t []api.Transfer) flow {
	f := flow{into: map[string][]api.Transfer{}, from: map[string][]api.Transfer{}}
	for _, x := range t {
		f.into[x.To] = append(f.into[x.To], x)
		f.from[x.From] = append(f.from[x.From], x)
	}
	return f
}

// CheckTransfers says what is wrong with transfers.
func CheckTransfers(t []api.Transfer) api.Errno {
	if len(t) > api.MaxTransfers {
		return api.ErrLarge
	}
	for i, x := range t {
		if e := checkTransfer(x); e != api.OK {
			return e
		}
		if i > 0 && inOrder(t[i-1], x) >= 0 {
			return api.ErrOrder
		}
	}
	if flowOf(t).loops() {
		return api.ErrLoop
	}
	return api.OK
}

func checkTransfer(x api.Transfer) api.Errno {
	switch {
	case !basic.Key(x.From) || !basic.Key(x.To):
		return api.ErrName
	case x.From == x.To:
		return api.ErrForm
	case !basic.Within(x.Amount, 1, api.MaxAmount):
		return api.ErrArg
	}
	return api.OK
}

// inOrder compares two transfers by their batches.
func inOrder(x, y api.Transfer) int {
	return cmp.Or(strings.Compare(x.From, y.From), strings.Compare(x.To, y.To))
}

// loops reports whether a batch got material of itself. If none did, all transfers are done once each batch passes its material on as soon as it is complete.
func (f flow) loops() bool {
	missing := map[string]int{} // how many transfers into a batch are not done
	done, all := 0, 0
	for batch, list := range f.into {
		missing[batch] = len(list)
		all += len(list)
	}
	var complete []string
	for batch := range f.from {
		if missing[batch] == 0 {
			complete = append(complete, batch)
		}
	}
	for ; len(complete) > 0; complete = complete[1:] {
		for _, x := range f.from[complete[0]] {
			done++
			missing[x.To]--
			if missing[x.To] == 0 {
				complete = append(complete, x.To)
			}
		}
	}
	return done < all
}

// trace returns the flow of transfers, if nothing is wrong with them and with the names of batches.
func trace(t []api.Transfer, batches ...string) (flow, api.Errno) {
	if e := CheckTransfers(t); e != api.OK {
		return flow{}, e
	}
	for _, batch := range batches {
		if !basic.Key(batch) {
			return flow{}, api.ErrName
		}
	}
	return flowOf(t), api.OK
}

// Sources returns all batches of which material went into a batch.
func Sources(t []api.Transfer, batch string) ([]string, api.Errno) {
	f, e := trace(t, batch)
	if e != api.OK {
		return nil, e
	}
	return f.sources(batch), api.OK
}

// Products returns all batches into which material of a batch went.
func Products(t []api.Transfer, batch string) ([]string, api.Errno) {
	f, e := trace(t, batch)
	if e != api.OK {
		return nil, e
	}
	return f.products(batch), api.OK
}

func (f flow) sources(batch string) []string {
	return reached(batch, f.into, func(x api.Transfer) string { return x.From })
}

func (f flow) products(batch string) []string {
	return reached(batch, f.from, func(x api.Transfer) string { return x.To })
}

// reached returns the batches to which transfers lead from a batch, over one or more; next says to which one a transfer leads.
func reached(batch string, transfers map[string][]api.Transfer, next func(x api.Transfer) string) []string {
	seen := map[string]bool{}
	for open := []string{batch}; len(open) > 0; open = open[1:] {
		for _, x := range transfers[open[0]] {
			if name := next(x); !seen[name] {
				seen[name] = true
				open = append(open, name)
			}
		}
	}
	return slices.Sorted(maps.Keys(seen))
}
