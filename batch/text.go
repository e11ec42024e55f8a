package batch

import (
	"slices"
	"strconv"
	"strings"

	"plantlog/api"
	"plantlog/basic"
)

// Text writes a line for each transfer.
func Text(t []api.Transfer) (string, api.Errno) {
	if e := CheckTransfers(t); e != api.OK {
		return "", e
	}
	var text strings.Builder
	for _, x := range t {
		text.WriteString(x.From + " " + x.To + " " + strconv.Itoa(x.Amount) + "\n")
	}
	// The present limits of transfers keep their text below this one.
	if text.Len() > api.MaxText {
		return "", api.ErrLarge
	}
	return text.String(), api.OK
}

// Read reads transfers.
func Read(text string) ([]api.Transfer, int, api.Errno) {
	t, line, e := basic.ReadLines(text, readLine)
	if e != api.OK {
		return nil, line, e
	}
	if e := CheckTransfers(t); e != api.OK {
		return nil, 0, e
	}
	return t, 0, api.OK
}

func readLine(line string) (api.Transfer, bool) {
	words := strings.Split(line, " ")
	if len(words) != 3 || slices.Contains(words, "") {
		return api.Transfer{}, false
	}
	amount, ok := basic.Number(words[2], basic.MaxDigits)
	return api.Transfer{From: words[0], To: words[1], Amount: amount}, ok
}
