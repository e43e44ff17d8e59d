package showman_test

import (
	"fmt"
	"math/rand/v2"
	"strings"
	"testing"

	"bioscope/api"
	"bioscope/showman"
)

// said is a line, and its answer or its error.
type said struct {
	line, answer string
	e            api.Errno
}

func ok(line, answer string) said { return said{line: line, answer: answer} }

func no(line string, e api.Errno) said { return said{line: line, e: e} }

// unknown, outside, away, not and full are lines that are errors.
func unknown(line string) said { return no(line, api.ErrShowmanUnknown) }
func outside(line string) said { return no(line, api.ErrRange) }
func away(line string) said    { return no(line, api.ErrShowmanAway) }
func not(line string) said     { return no(line, api.ErrShowmanNot) }
func full(line string) said    { return no(line, api.ErrFull) }
func none(line string) said    { return no(line, api.ErrNone) }
func poor(line string) said    { return no(line, api.ErrShowmanMoney) }
func untrue(line string) said  { return no(line, api.ErrShowmanFalse) }

// play lets a clerk do lines, and sees that those that are errors change nothing.
func play(t *testing.T, c *showman.Showman, lines ...said) {
	t.Helper()
	for i, x := range lines {
		before := hasOf(c)
		a, e := c.Do(x.line)
		if a != x.answer || e != x.e {
			t.Errorf("line %d, %q: %q, %d", i, x.line, a, e)
		}
		if e != api.OK && !hasOf(c).isSame(before) {
			t.Errorf("line %d, %q: %d, but something has changed", i, x.line, e)
		}
	}
}

// forms are a line of each word that is done, one after another, by a new clerk of the examples.
func forms() []said {
	return []said{
		ok("day 101", "101"), ok("show moon 1300", "1"), ok("licence 0 108", "35"), ok("send moon ayr cam 480", "665"), ok("got moon", "1"), ok("close 760 31 18", "342 342"), ok("roll 1", "1"),
		ok("why moon 1351", "4"), ok("days 110", "101 102 103 104 108"), ok("fee 110 110", "5"), ok("order moon", "1 0 2 3"), ok("lasts moon", "20028 27328"), ok("spools moon", "2 2"), ok("route ayr cam 495", "2 0 1"), ok("reach ayr 480", "480 590 665"), ok("away", "-"), ok("tickets", "31 0"), ok("purse", "377"), ok("today", "101"),
	}
}

// P11.2: each line has the form with just as many tokens.
func TestTokens(t *testing.T) {
	play(t, made(t), forms()...)
	c := made(t)
	for _, x := range forms() {
		tokens := strings.Split(x.line, " ")
		few := strings.Join(tokens[:len(tokens)-1], " ")
		for _, line := range []string{few, x.line + " 1", x.line + " moon", x.line + " ", " " + x.line, "\n" + x.line, tokens[0] + "\n" + x.line[len(tokens[0]):], strings.ToUpper(x.line), strings.ReplaceAll(x.line, " ", "\t") + "\t", x.line + " 1 1 1 1", "x" + x.line, x.line[:2]} {
			play(t, c, no(line, api.ErrShowmanLine))
		}
		for i := 1; i < len(tokens); i++ {
			again := strings.Split(x.line, " ")
			again[i] = ""
			play(t, c, no(strings.Join(again, " "), api.ErrShowmanLine))
			again[i] = " " + tokens[i]
			play(t, c, no(strings.Join(again, " "), api.ErrShowmanLine))
		}
	}
	for _, line := range []string{"", " ", "  ", "x", "moon", "day\x005", "day\n5", "day\t5", "day,5", "days", "Day 5", "dAy 5", "dai 5", "daya 5", "da 5", "today today", "\xff", "\u00a0", "day\u00a05", "0", "5", "shows moon 5", "licences 0 5", "tickets 1", "away moon", "purse 5"} {
		play(t, c, no(line, api.ErrShowmanLine))
	}
	play(t, c, ok("today", "0"))
}

// P11.2: so many numbers stand behind close as there are rolls.
func TestTokensOfClose(t *testing.T) {
	for many := 1; many <= 4; many++ {
		c := made(t, rolls(make([]int, many)...), func(s *api.ShowmanSetup) {
			for i := range s.Prices {
				s.Prices[i] = 1
			}
			s.Guarantee, s.Duty, s.Share = 0, 0, 0
		})
		for n := range 8 {
			x := no("close 6"+strings.Repeat(" 1", n), api.ErrShowmanLine)
			if n == many {
				x = ok(x.line, fmt.Sprintf("%d %d", many, many))
			}
			play(t, c, x)
		}
		play(t, c, ok("tickets", strings.TrimSpace(strings.Repeat("1 ", many))))
	}
}

// P11.2: what is a number. Each line is tried with one number as it should be, and as it should not.
func TestNumbers(t *testing.T) {
	wrongs := []string{"x", "05", "00", "000000", "-1", "-0", "+1", "1.0", "1e1", "0x1", "1000000", "0000001", "1234567", "99999999999999999999", "1_0", "1x", "x1", "5\n", "\n5", "5\t", "5,", "'5", "\u0665", "5\u0660", "5\x00", "\x005", "/", ":", "5/", "5:", "moon", "-"}
	c := made(t)
	for _, line := range []string{"day #", "show moon #", "licence # 108", "licence 0 #", "send moon ayr cam #", "close # 31 18", "close 760 # 18", "close 760 31 #", "roll #", "why moon #", "days #", "fee # 5", "fee 5 #", "route ayr cam #", "reach ayr #", "show noon #", "send noon zoo zoo #", "why noon #", "route zoo zoo #", "reach zoo #", "close # 999 999", "licence # 999999"} {
		for _, n := range wrongs {
			play(t, c, no(strings.Replace(line, "#", n, 1), api.ErrShowmanLine))
		}
		for _, n := range []string{"0", "7", "10", "100", "1440", "99999", "100000", "999999"} {
			if _, e := c.Do(strings.Replace(line, "#", n, 1)); e == api.ErrShowmanLine {
				t.Errorf("%s, %s: %d", line, n, e)
			}
		}
	}
	c = made(t)
	play(t, c, ok("day 0", "0"), ok("day 9", "9"), ok("day 99", "99"), ok("day 999", "999"), outside("day 9999"), outside("day 99999"), outside("day 999999"))
}

// P11.2: a line has at most 120 bytes.
func TestLongLines(t *testing.T) {
	c := made(t)
	for _, word := range []string{"order ", "lasts ", "spools ", "got "} {
		play(t, c, unknown(word+strings.Repeat("a", 120-len(word))), no(word+strings.Repeat("a", 121-len(word)), api.ErrShowmanLine), no(word+strings.Repeat("a", 1<<16), api.ErrShowmanLine))
	}
	many := "send moon ayr " + strings.Repeat("c", 102) + " 480"
	play(t, c, unknown(many), no(strings.Replace(many, "c", "cc", 1), api.ErrShowmanLine))
	play(t, c, no(strings.Repeat("a", 120), api.ErrShowmanLine), no(strings.Repeat(" ", 200), api.ErrShowmanLine), no(strings.Repeat("1 ", 1<<20), api.ErrShowmanLine))
}

// P11.2: names are any tokens, and those that are not known are compared byte by byte.
func TestUnknownNames(t *testing.T) {
	c := made(t, names("moon", "moo"))
	for _, name := range []string{"moom", "mo", "moonn", "Moon", "mooN", "moon\n", "\nmoon", "moon\x00", "ayr", "0", "-", "\xff", "m\u00f8n", "noom", "moo0", "a-b", "12345678901234567890"} {
		play(t, c, unknown("show "+name+" 5"), unknown("send "+name+" ayr cam 480"), unknown("got "+name), unknown("why "+name+" 5"), unknown("order "+name), unknown("lasts "+name), unknown("spools "+name))
	}
	for _, name := range []string{"ay", "ayrr", "Ayr", "ayr\t", "moon", "1", "bo", "\x00"} {
		play(t, c, unknown("send moon "+name+" cam 480"), unknown("send moon ayr "+name+" 480"), unknown("send moon "+name+" "+name+" 480"), unknown("route "+name+" cam 480"), unknown("route ayr "+name+" 480"), unknown("reach "+name+" 480"))
	}
	play(t, c, ok("lasts moon", "20100 27360"), ok("lasts moo", "2500 2500"))
}

// P1, P11.2: any text is a line that does not panic; with an error there is no answer, and nothing is changed.
func TestAnyLines(t *testing.T) {
	r := rand.New(rand.NewPCG(111, 1))
	bits := []string{"day", "show", "licence", "send", "got", "close", "roll", "why", "days", "fee", "order", "lasts", "spools", "route", "reach", "away", "tickets", "purse", "today", "moon", "race", "ayr", "bow", "cam", "noon", "0", "1", "5", "31", "18", "101", "480", "999", "1000", "1440", "2880", "60001", "999999", "05", "-1", "", "\n", "\x00", "\xff", "  "}
	c := made(t)
	seen := map[api.Errno]int{}
	for range 60000 {
		var tokens []string
		for range 1 + r.IntN(6) {
			tokens = append(tokens, bits[r.IntN(len(bits))])
		}
		line := []byte(strings.Join(tokens, " "))
		if len(line) > 0 && r.IntN(9) == 0 {
			line[r.IntN(len(line))] = byte(r.IntN(256))
		}
		before := hasOf(c)
		a, e := c.Do(string(line))
		seen[e]++
		if e != api.OK && (a != "" || !hasOf(c).isSame(before)) || e == api.OK && a == "" {
			t.Fatalf("%q: %q, %d", line, a, e)
		}
		if len(c.Journal()) > 150 {
			c = made(t)
		}
	}
	for _, e := range []api.Errno{api.OK, api.ErrShowmanLine, api.ErrShowmanUnknown, api.ErrRange, api.ErrShowmanAway, api.ErrShowmanNot, api.ErrShowmanFalse, api.ErrNone} {
		if seen[e] == 0 {
			t.Errorf("no line was %d: %v", e, seen)
		}
	}
}
