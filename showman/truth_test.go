package showman_test

import (
	"fmt"
	"math/rand/v2"
	"regexp"
	"slices"
	"strconv"
	"strings"
	"testing"

	"bioscope/api"
	"bioscope/licence"
	"bioscope/reel"
	"bioscope/showman"
	"bioscope/till"
	"bioscope/train"
)

// model does lines as the chapter tells it, one table row after another, and remembers what P11.8 and P11.9 speak of.
type model struct {
	s          api.ShowmanSetup
	day, purse int
	held       []api.LicencePaper
	shows      []api.ShowmanShow
	had        map[int]int
	gone       map[int]bool
	next       []int
	journal    []string
	fees, left int
}

func modelOf(s api.ShowmanSetup) *model {
	return &model{s: s, purse: s.Purse, held: slices.Clone(s.Town.Held), had: map[int]int{}, gone: map[int]bool{}, next: make([]int, len(s.Prices))}
}

func (m *model) has() has {
	h := has{Day: m.day, Purse: m.purse, Shows: slices.Clone(m.shows), Held: slices.Clone(m.held), Tickets: slices.Clone(m.next), Journal: slices.Clone(m.journal)}
	for film := range m.s.Films {
		if m.gone[film] {
			h.Away = append(h.Away, film)
		}
	}
	for _, line := range m.journal {
		h.File += line + "\n"
	}
	return h
}

func (m *model) town() api.LicenceTown {
	t := m.s.Town
	t.Held = m.held
	return t
}

var aNumber = regexp.MustCompile(`\A(0|[1-9][0-9]{0,5})\z`)

// shapes are what stands behind each word: F a film, S a station, N a number, R as many numbers as there are rolls.
var shapes = map[string]string{
	"day": "N", "show": "FN", "licence": "NN", "send": "FSSN", "got": "F", "close": "NR", "roll": "N",
	"why": "FN", "days": "N", "fee": "NN", "order": "F", "lasts": "F", "spools": "F", "route": "SSN", "reach": "SN", "away": "", "tickets": "", "purse": "", "today": "",
}

var changing = map[string]bool{"day": true, "show": true, "licence": true, "send": true, "got": true, "close": true, "roll": true}

// read returns the numbers of the films and stations of a line, -1 for names that are not known, and its numbers.
func (m *model) read(line string) (word string, films, stations, n []int, is bool) {
	tokens := strings.Split(line, " ")
	shape, known := shapes[tokens[0]]
	shape = strings.Replace(shape, "R", strings.Repeat("N", len(m.s.Prices)), 1)
	if !known || len(line) > 120 || len(tokens) != 1+len(shape) {
		return "", nil, nil, nil, false
	}
	for i, token := range tokens[1:] {
		switch {
		case token == "":
			return "", nil, nil, nil, false
		case shape[i] == 'F':
			films = append(films, slices.Index(m.s.Names, token))
		case shape[i] == 'S':
			stations = append(stations, slices.Index(m.s.Stations, token))
		case !aNumber.MatchString(token):
			return "", nil, nil, nil, false
		default:
			x, _ := strconv.Atoi(token)
			n = append(n, x)
		}
	}
	return tokens[0], films, stations, n, true
}

// do does a line.
func (m *model) do(line string) (string, api.Errno) {
	word, films, stations, n, is := m.read(line)
	switch {
	case !is:
		return "", api.ErrShowmanLine
	case changing[word] && len(m.journal) == 200:
		return "", api.ErrFull
	case slices.Contains(films, -1) || slices.Contains(stations, -1):
		return "", api.ErrShowmanUnknown
	}
	film := append(films, -1)[0]
	if !changing[word] {
		return m.ask(word, film, stations, n)
	}
	answer, e := m.change(word, film, stations, n)
	if e != api.OK {
		return "", e
	}
	m.journal = append(m.journal, line)
	return fmt.Sprint(answer...), e
}

type parts []any

func (m *model) change(word string, film int, stations, n []int) (parts, api.Errno) {
	switch word {
	case "day":
		if n[0] < m.day || n[0] > 999 {
			return nil, api.ErrRange
		}
		m.day = n[0]
		return parts{m.day}, api.OK
	case "show":
		if n[0] > 1439 {
			return nil, api.ErrRange
		}
		if m.gone[film] {
			return nil, api.ErrShowmanAway
		}
		if why, e := licence.Why(m.town(), m.day, film, n[0]); why != 0 || e != api.OK {
			return nil, api.ErrShowmanNot
		}
		if len(m.shows) >= 40 {
			return nil, api.ErrFull
		}
		m.shows = append(m.shows, api.ShowmanShow{Day: m.day, Film: film, Minute: n[0]})
		m.had[film]++
		return parts{m.had[film]}, api.OK
	case "licence":
		return m.licence(n[0], n[1])
	case "send":
		if stations[0] == stations[1] || n[0] > 2879 {
			return nil, api.ErrRange
		}
		if m.gone[film] {
			return nil, api.ErrShowmanAway
		}
		there, e := train.Surely(m.s.Table, stations[0], stations[1], n[0])
		m.gone[film] = e == api.OK
		return parts{there}, e
	case "got":
		if !m.gone[film] {
			return nil, api.ErrShowmanAway
		}
		m.gone[film] = false
		return parts{m.had[film]}, api.OK
	case "close":
		return m.close(n[0], n[1:])
	}
	if n[0] >= len(m.next) {
		return nil, api.ErrRange
	}
	m.next[n[0]] = 0
	return parts{n[0]}, api.OK
}

func (m *model) licence(kind, first int) (parts, api.Errno) {
	if kind >= len(m.s.Town.Kinds) || first > 999 {
		return nil, api.ErrRange
	}
	if is, e := licence.IsPlan(m.town(), m.day, []api.LicencePaper{paper(kind, first)}); !is || e != api.OK {
		return nil, api.ErrShowmanNot
	}
	fee := m.s.Town.Kinds[kind].Fee
	if len(m.held) >= 4 {
		return nil, api.ErrFull
	}
	if fee > m.purse {
		return nil, api.ErrShowmanMoney
	}
	m.held = append(m.held, paper(kind, first))
	m.purse -= fee
	m.fees += fee
	return parts{m.purse}, api.OK
}

func (m *model) close(count int, ends []int) (parts, api.Errno) {
	b := api.TillBox{Free: m.s.Free, Count: count, Err: m.s.Err, Duty: m.s.Duty, Share: m.s.Share, Guarantee: m.s.Guarantee}
	for i, end := range ends {
		if end < m.next[i] || end > 300 {
			return nil, api.ErrRange
		}
		b.Rolls = append(b.Rolls, api.TillRoll{Price: m.s.Prices[i], First: span(m.next[i], m.next[i]), End: span(end, end)})
	}
	if count > 60000 {
		return nil, api.ErrRange
	}
	if many, e := till.Many(b); many == 0 || e != api.OK {
		return nil, api.ErrShowmanFalse
	}
	left, _ := till.Left(b)
	m.next = slices.Clone(ends)
	m.purse += left.Low
	m.left += left.Low
	return parts{left.Low, " ", left.High}, api.OK
}

// list is an answer of numbers.
func list(numbers []int, e api.Errno) (string, api.Errno) {
	if e != api.OK {
		return "", e
	}
	return joined(numbers), e
}

func joined[E any](l []E) string {
	if len(l) == 0 {
		return "-"
	}
	return strings.Trim(fmt.Sprint(l), "[]")
}

func (m *model) ask(word string, film int, stations, n []int) (string, api.Errno) {
	switch word {
	case "why":
		if n[0] > 1439 {
			return "", api.ErrRange
		}
		why, e := licence.Why(m.town(), m.day, film, n[0])
		return list([]int{why}, e)
	case "days":
		if n[0] < m.day || n[0] > 999 {
			return "", api.ErrRange
		}
		return list(licence.Days(m.town(), span(m.day, n[0])))
	case "fee":
		if n[0] < m.day || n[1] < n[0] || n[1] > 999 || n[1] > n[0]+7 {
			return "", api.ErrRange
		}
		var wanted []int
		for day := n[0]; day <= n[1]; day++ {
			wanted = append(wanted, day)
		}
		fee, e := licence.Fee(m.town(), m.day, wanted)
		return list([]int{fee}, e)
	case "order", "lasts", "spools":
		return m.askFilm(word, m.s.Films[film], m.had[film])
	case "route", "reach":
		return m.askTrains(word, stations, n[0])
	case "away":
		var l []string
		for i, name := range m.s.Names {
			if m.gone[i] {
				l = append(l, name)
			}
		}
		return joined(l), api.OK
	case "tickets":
		return joined(m.next), api.OK
	case "purse":
		return fmt.Sprint(m.purse), api.OK
	}
	return fmt.Sprint(m.day), api.OK
}

func (m *model) askFilm(word string, f api.ReelFilm, shows int) (string, api.Errno) {
	if word == "lasts" {
		s, e := reel.Lasts(f, []int{0, 1, 2, 3, 4, 5}[:len(f.Reels)], shows)
		return list([]int{s.Low, s.High}, e)
	}
	order, e := reel.First(f)
	if word == "order" || e != api.OK {
		return list(order, e)
	}
	return list(reel.Spools(f, order, shows))
}

func (m *model) askTrains(word string, stations []int, minute int) (string, api.Errno) {
	if minute > 2879 || word == "route" && stations[0] == stations[1] {
		return "", api.ErrRange
	}
	if word == "reach" {
		return list(train.Reach(m.s.Table, stations[0], minute))
	}
	route, e := train.Best(m.s.Table, stations[0], stations[1], minute)
	var l []int
	for _, leg := range route {
		l = append(l, leg.Train, leg.From, leg.To)
	}
	return list(l, e)
}

// someSetup is that of the examples with other towns, films, prices and purses.
func someSetup(r *rand.Rand) api.ShowmanSetup {
	var l []change
	if r.IntN(2) == 0 {
		l = append(l, kinds(api.LicenceKind{Days: 1 + r.IntN(3), Fee: r.IntN(9)}, api.LicenceKind{Days: 2 + r.IntN(9), Fee: r.IntN(60), Notice: r.IntN(6)}, api.LicenceKind{Days: 30, Fee: 10, Notice: r.IntN(2)}), held(paper(r.IntN(2), r.IntN(5))))
	}
	if r.IntN(3) == 0 {
		l = append(l, held())
	}
	if r.IntN(2) == 0 {
		l = append(l, func(s *api.ShowmanSetup) {
			long := simpleFilm(400+r.IntN(30), 1+r.IntN(20), r.IntN(9), 400)
			split := s.Films[0]
			split.Reels = slices.Clone(split.Reels)
			split.Reels[1].Last, split.Tear = span(5, 6), span(0, 50)
			s.Films, s.Names = append(s.Films, long, split), append(s.Names, "sea", "split")
		})
	}
	switch r.IntN(4) {
	case 0:
		l = append(l, rolls(1+r.IntN(50)))
	case 1:
		l = append(l, rolls(1+r.IntN(50), 1+r.IntN(50), 1+r.IntN(3)), wrong(r.IntN(201)))
	}
	l = append(l, forbidden(r.IntN(16)&r.IntN(16)), purse(r.IntN(200)), guarantee(r.IntN(80)))
	return example(l...)
}

// someLine is a line that a clerk can do, or nearly so.
func someLine(r *rand.Rand, m *model) string {
	words := []string{"day", "show", "show", "show", "licence", "licence", "send", "got", "close", "close", "roll", "why", "days", "fee", "order", "lasts", "spools", "route", "reach", "away", "tickets", "purse", "today"}
	word := words[r.IntN(len(words))]
	tokens := []string{word}
	for i, kind := range strings.Replace(shapes[word], "R", strings.Repeat("N", len(m.next)), 1) {
		token := fmt.Sprint(someNumber(r, m, word, i))
		switch {
		case kind != 'N' && r.IntN(30) == 0:
			token = "noon"
		case kind == 'F':
			token = m.s.Names[r.IntN(len(m.s.Names))]
		case kind == 'S':
			token = m.s.Stations[r.IntN(len(m.s.Stations))]
		case r.IntN(40) == 0:
			token = []string{"1440", "1439", "2879", "2880", "999", "1000", "60001", "999999", "-1", "05", "x", "", "0"}[r.IntN(13)]
		}
		tokens = append(tokens, token)
	}
	if r.IntN(50) == 0 {
		tokens = append(tokens, "5")
	}
	return strings.Join(tokens, " ")
}

// someNumber is one that can stand in this place of a line.
func someNumber(r *rand.Rand, m *model, word string, i int) int {
	switch word {
	case "day", "days":
		return max(0, m.day-1+r.IntN(4))
	case "show", "why":
		return 1200 + r.IntN(170)
	case "licence":
		return []int{r.IntN(len(m.s.Town.Kinds) + 1), max(0, m.day+r.IntN(20)-1)}[i]
	case "fee":
		return max(0, m.day-1+r.IntN(9)+i*r.IntN(8))
	case "send", "route", "reach":
		return 440 + r.IntN(300)
	case "roll":
		return r.IntN(len(m.next) + 1)
	case "close":
		if i > 0 {
			return max(0, m.next[i-1]-1+r.IntN(12))
		}
		return r.IntN(40 * m.s.Prices[0])
	}
	return 0
}

// honest is a line that closes the box with what as many tickets brought as it tells.
func honest(r *rand.Rand, m *model) string {
	brought, ends := 0, ""
	for i, next := range m.next {
		sold := r.IntN(20)
		brought += sold * m.s.Prices[i]
		ends += fmt.Sprint(" ", next+sold)
	}
	return fmt.Sprint("close ", brought, ends)
}

// season lets a clerk and the model do some lines, and calls see with each one.
func season(t *testing.T, r *rand.Rand, many int, see func(c *showman.Showman, m *model, before has, line, answer string, e api.Errno)) {
	s := someSetup(r)
	c, e := showman.New(s)
	if e != api.OK {
		t.Fatalf("New of %v: %d", s, e)
	}
	m := modelOf(s)
	if r.IntN(2) == 0 {
		c.Do("day 100")
		m.do("day 100")
	}
	for range many {
		line := someLine(r, m)
		if r.IntN(30) == 0 {
			line = honest(r, m)
		}
		before := m.has()
		want, e := m.do(line)
		got, f := c.Do(line)
		if got != want || f != e {
			t.Fatalf("%q of %v after %q: %q, %d, not %q, %d", line, s, m.journal, got, f, want, e)
		}
		see(c, m, before, line, want, e)
	}
}

// P11.2, P11.3, P11.10: each line does what the tables tell, and what lines that ask answer is what the layers below return of what the clerk has.
func TestSeasons(t *testing.T) {
	r := rand.New(rand.NewPCG(112, 1))
	seen := map[string]int{}
	for range 500 {
		season(t, r, 150, func(c *showman.Showman, m *model, before has, line, answer string, e api.Errno) {
			if got := hasOf(c); !got.isSame(m.has()) {
				t.Fatalf("after %q of %q the clerk has %v, not %v", line, m.journal, got, m.has())
			}
			seen[fmt.Sprint(strings.Split(line, " ")[0], " ", e)]++
		})
	}
	for word, l := range map[string][]api.Errno{
		"day": {api.ErrRange}, "show": {api.ErrShowmanUnknown, api.ErrRange, api.ErrShowmanAway, api.ErrShowmanNot}, "licence": {api.ErrRange, api.ErrShowmanNot, api.ErrFull, api.ErrShowmanMoney}, "send": {api.ErrShowmanUnknown, api.ErrRange, api.ErrShowmanAway, api.ErrNone}, "got": {api.ErrShowmanUnknown, api.ErrShowmanAway}, "close": {api.ErrRange, api.ErrShowmanFalse}, "roll": {api.ErrRange},
		"why": {api.ErrShowmanUnknown, api.ErrRange}, "days": {api.ErrRange}, "fee": {api.ErrRange, api.ErrNone}, "order": {api.ErrShowmanUnknown, api.ErrNone}, "lasts": {api.ErrShowmanUnknown}, "spools": {api.ErrShowmanUnknown, api.ErrNone}, "route": {api.ErrShowmanUnknown, api.ErrRange, api.ErrNone}, "reach": {api.ErrShowmanUnknown, api.ErrRange}, "away": nil, "tickets": nil, "purse": nil, "today": nil,
	} {
		for _, e := range append(l, api.OK, api.ErrShowmanLine) {
			if seen[fmt.Sprint(word, " ", e)] < 3 {
				t.Errorf("%s was %d only %d times", word, e, seen[fmt.Sprint(word, " ", e)])
			}
		}
	}
}

// P11.6: a clerk whose file is opened is the same again, has the same file, and goes on just so.
func TestTheSeason(t *testing.T) {
	r := rand.New(rand.NewPCG(113, 1))
	lines := 0
	for range 150 {
		var again *showman.Showman
		season(t, r, 120, func(c *showman.Showman, m *model, before has, line, answer string, e api.Errno) {
			if again != nil {
				if got, f := again.Do(line); got != answer || f != e {
					t.Fatalf("%q after %q goes on with %q, %d, not %q, %d", line, m.journal, got, f, answer, e)
				}
			}
			if again != nil && r.IntN(10) != 0 {
				return
			}
			if again != nil && !hasOf(again).isSame(hasOf(c)) {
				t.Fatalf("after %q the clerk of the file has %v, not %v", m.journal, hasOf(again), hasOf(c))
			}
			d, at, f := showman.Open(m.s, c.File())
			if d == nil || at != len(m.journal) || f != api.OK || !hasOf(d).isSame(hasOf(c)) {
				t.Fatalf("Open of %q: %d, %d, %v", m.journal, at, f, hasOf(d))
			}
			again, lines = d, lines+at
		})
	}
	if lines < 10000 {
		t.Errorf("%d lines were opened", lines)
	}
}

// P11.4: the first line of a file that asks, or is an error, is told, wherever it is.
func TestFirstWrongLine(t *testing.T) {
	r := rand.New(rand.NewPCG(114, 1))
	seen := map[api.Errno]int{}
	for range 150 {
		season(t, r, 100, func(c *showman.Showman, m *model, before has, line, answer string, e api.Errno) {
			word := strings.Split(line, " ")[0]
			if !changing[word] {
				e = api.ErrShowmanLine
			}
			if e == api.OK || r.IntN(4) != 0 {
				return
			}
			seen[e]++
			file := before.File + line + "\n" + someLine(r, m) + "\n"
			if d, at, f := showman.Open(m.s, file); d != nil || at != len(before.Journal) || f != e {
				t.Fatalf("Open of %q: %v, %d, %d, not %d", file, d != nil, at, f, e)
			}
		})
	}
	for _, e := range []api.Errno{api.ErrShowmanLine, api.ErrShowmanUnknown, api.ErrRange, api.ErrShowmanAway, api.ErrShowmanNot, api.ErrShowmanFalse, api.ErrNone, api.ErrShowmanMoney, api.ErrFull} {
		if seen[e] == 0 {
			t.Errorf("no file had a line that is %d: %v", e, seen)
		}
	}
}

// P11.7: a line that is an error, or asks, changes nothing; days never go back.
func TestNothingChanges(t *testing.T) {
	r := rand.New(rand.NewPCG(115, 1))
	for range 150 {
		season(t, r, 120, func(c *showman.Showman, m *model, before has, line, answer string, e api.Errno) {
			now, asks := hasOf(c), !changing[strings.Split(line, " ")[0]]
			if (e != api.OK || asks) && !now.isSame(before) {
				t.Fatalf("%q was %d, but the clerk has %v, not %v", line, e, now, before)
			}
			if e == api.OK && !asks && now.File != before.File+line+"\n" {
				t.Fatalf("after %q the file is %q", line, now.File)
			}
			if now.Day < before.Day {
				t.Fatalf("after %q it is the day %d, not %d", line, now.Day, before.Day)
			}
		})
	}
}

// mayBe reports whether a show may be: a licence covers its day, which is not barred, the film is not forbidden, and it is over in time.
func mayBe(t api.LicenceTown, x api.ShowmanShow) bool {
	covered := slices.ContainsFunc(t.Held, func(p api.LicencePaper) bool {
		return p.First <= x.Day && x.Day <= p.First+t.Kinds[p.Kind].Days-1
	})
	barred := slices.ContainsFunc(t.Barred, func(s api.Span) bool { return s.Low <= x.Day && x.Day <= s.High })
	return covered && !barred && t.Forbidden&(1<<x.Film) == 0 && x.Minute <= t.Close
}

// P11.8: each show might be, and its film was not away.
func TestWhereItIsForbidden(t *testing.T) {
	r := rand.New(rand.NewPCG(116, 1))
	shown, not := 0, 0
	for range 400 {
		season(t, r, 120, func(c *showman.Showman, m *model, before has, line, answer string, e api.Errno) {
			word, films, _, n, is := m.read(line)
			if !is || word != "show" || films[0] < 0 || n[0] > 1439 {
				return
			}
			town := m.s.Town
			town.Held = before.Held
			x := api.ShowmanShow{Day: before.Day, Film: films[0], Minute: n[0]}
			if may := mayBe(town, x) && !slices.Contains(before.Away, x.Film); may != (e == api.OK || e == api.ErrFull) {
				t.Fatalf("%q after %q: %d, but %v", line, m.journal, e, may)
			}
			l := c.Shows()
			if e != api.OK {
				not++
			} else if shown++; !slices.Equal(l, append(before.Shows, x)) {
				t.Fatalf("after %q there are the shows %v", line, l)
			}
		})
	}
	if shown < 500 || not < 500 {
		t.Errorf("%d shows, %d that were not", shown, not)
	}
}

// P11.9: the purse is what it was in the beginning, less all fees, and more by what each closing surely left.
func TestToTheCent(t *testing.T) {
	r := rand.New(rand.NewPCG(117, 1))
	paid, closed := 0, 0
	for range 400 {
		season(t, r, 120, func(c *showman.Showman, m *model, before has, line, answer string, e api.Errno) {
			fees := 0
			for _, p := range c.Held()[len(m.s.Town.Held):] {
				fees += m.s.Town.Kinds[p.Kind].Fee
			}
			if word := strings.Split(line, " ")[0]; e == api.OK && word == "close" {
				closed++
				if least, _ := strconv.Atoi(strings.Split(answer, " ")[0]); c.Purse() != before.Purse+least {
					t.Fatalf("after %q, %q the purse is %d, not %d more than %d", line, answer, c.Purse(), least, before.Purse)
				}
			} else if e == api.OK && word == "licence" {
				paid++
			} else if c.Purse() != before.Purse {
				t.Fatalf("after %q the purse is %d, not %d", line, c.Purse(), before.Purse)
			}
			if fees != m.fees || c.Purse() != m.s.Purse-fees+m.left {
				t.Fatalf("after %q the purse is %d: %d in the beginning, fees %d, left %d", m.journal, c.Purse(), m.s.Purse, fees, m.left)
			}
		})
	}
	if paid < 200 || closed < 200 {
		t.Errorf("%d licences, %d closings", paid, closed)
	}
}

// P2, P11.5: two clerks of one setup know nothing of one another.
func TestTwoClerks(t *testing.T) {
	r := rand.New(rand.NewPCG(118, 1))
	for range 100 {
		var other *showman.Showman
		var want has
		season(t, r, 60, func(c *showman.Showman, m *model, before has, line, answer string, e api.Errno) {
			if other == nil {
				other, _ = showman.New(m.s)
				other.Do("day 1")
				other.Do("show moon 1300")
				want = hasOf(other)
			}
			if got := hasOf(other); !got.isSame(want) {
				t.Fatalf("after %q of one clerk the other one has %v, not %v", line, got, want)
			}
		})
	}
}
