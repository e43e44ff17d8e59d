package showman

import (
	"iter"
	"slices"

	"bioscope/api"
)

const (
	blank  = ' ' // stands between two tokens of a line
	digits = 6   // of a number, at most
)

// deed is what a line does: how many names, and behind these how many numbers, there are behind its word; by what it is done; and whether it only asks.
type deed struct {
	names, numbers int
	do             func(*task) string
	asks           bool
}

// task is a line that has the form, and the books in which it is done.
type task struct {
	books
	names   []string
	numbers []int
}

// deeds returns for each word what a line does that begins with it, if there are so many rolls.
func deeds(rolls int) map[string]deed {
	return map[string]deed{
		"day":     {0, 1, (*task).turn, false},
		"show":    {1, 1, (*task).show, false},
		"licence": {0, 2, (*task).pay, false},
		"send":    {3, 1, (*task).send, false},
		"got":     {1, 0, (*task).get, false},
		"close":   {0, 1 + rolls, (*task).settle, false},
		"roll":    {0, 1, (*task).renew, false},
		"why":     {1, 1, (*task).tellWhy, true},
		"days":    {0, 1, (*task).tellDays, true},
		"fee":     {0, 2, (*task).tellFee, true},
		"order":   {1, 0, (*task).tellOrder, true},
		"lasts":   {1, 0, (*task).tellLasts, true},
		"spools":  {1, 0, (*task).tellSpools, true},
		"route":   {2, 1, (*task).tellRoute, true},
		"reach":   {1, 1, (*task).tellReach, true},
		"away":    {0, 0, (*task).tellAway, true},
		"tickets": {0, 0, (*task).tellTickets, true},
		"purse":   {0, 0, (*task).tellPurse, true},
		"today":   {0, 0, (*task).tellToday, true},
	}
}

// refuse leaves the line that is done, with an error: after recovers it.
func refuse(e api.Errno) { panic(e) }

func refuseIf(wrong bool, e api.Errno) {
	if wrong {
		refuse(e)
	}
}

// granted returns what a layer below answers; the line is refused with the error of that layer.
func granted[V any](v V, e api.Errno) V {
	refuseIf(e != api.OK, e)
	return v
}

// after returns what the clerk has after a line, and its answer. A line that asks is refused unless it may.
func (b books) after(line string, mayAsk bool) (now books, answer string, e api.Errno) {
	defer func() {
		if r := recover(); r != nil {
			now, answer, e = b, "", r.(api.Errno)
		}
	}()
	d, t := b.read(line)
	if d.asks {
		refuseIf(!mayAsk, api.ErrShowmanLine)
	} else {
		refuseIf(len(b.journal) == api.ShowmanJournal, api.ErrFull)
		t.journal = more(b.journal, line)
	}
	answer = d.do(&t)
	return t.books, answer, api.OK
}

// read returns what a line does, and the task that it is; it refuses one that does not have the form.
func (b books) read(line string) (deed, task) {
	refuseIf(len(line) > api.ShowmanLine, api.ErrShowmanLine)
	var tokens []string
	for token := range parts(line, blank) {
		tokens = append(tokens, token)
	}
	d, is := deeds(len(b.setup.Prices))[tokens[0]]
	refuseIf(!is || len(tokens) != 1+d.names+d.numbers || slices.Contains(tokens, ""), api.ErrShowmanLine)
	behind := 1 + d.names
	return d, task{books: b, names: tokens[1:behind:behind], numbers: each(tokens[behind:], number)}
}

// number returns the number that a token is; it refuses a token that is none.
func number(token string) (n int) {
	many := len(token)
	refuseIf(many < 1 || many > digits || many > 1 && token[0] == '0', api.ErrShowmanLine)
	for i := range many {
		c := token[i]
		refuseIf(c < '0' || c > '9', api.ErrShowmanLine)
		n = 10*n + int(c-'0')
	}
	return n
}

// finder returns what finds the numbers that names have in a list; it refuses a name that is not there.
func finder(list []string) func(names ...string) []int {
	return func(names ...string) (numbers []int) {
	nextName:
		for _, name := range names {
			for i, known := range list {
				if known == name {
					numbers = append(numbers, i)
					continue nextName
				}
			}
			refuse(api.ErrShowmanUnknown)
		}
		return numbers
	}
}

// parts produces what is before, between and behind the bytes of a sort in a text.
func parts(text string, between byte) iter.Seq[string] {
	return func(yield func(string) bool) {
		begin := 0
		for i := range len(text) {
			if text[i] != between {
				continue
			}
			if !yield(text[begin:i]) {
				return
			}
			begin = i + 1
		}
		yield(text[begin:])
	}
}

// checkFile returns ErrLong if a file is too long, and ErrForm if its last line has no end.
func checkFile(file string) api.Errno {
	switch many := len(file); {
	case many > api.MaxText:
		return api.ErrLong
	case many > 0 && file[many-1] != lineEnd:
		return api.ErrForm
	}
	return api.OK
}

// lines produces all lines of a file in which each one has its end.
func lines(file string) iter.Seq[string] {
	if file == "" {
		return func(func(string) bool) {}
	}
	return parts(file[:len(file)-1], lineEnd)
}
