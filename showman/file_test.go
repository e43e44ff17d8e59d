package showman_test

import (
	"strings"
	"testing"

	"bioscope/api"
	"bioscope/showman"
)

// opened is the clerk of a file that has the form.
func opened(t *testing.T, file string, changes ...change) *showman.Showman {
	t.Helper()
	c, at, e := showman.Open(example(changes...), file)
	if c == nil || at != strings.Count(file, "\n") || e != api.OK {
		t.Fatalf("Open of %q: %v, %d, %d", file, c, at, e)
	}
	return c
}

// P11.4: a file has all lines of the journal, each with a line feed behind it.
func TestFile(t *testing.T) {
	c := made(t)
	if f := c.File(); f != "" {
		t.Errorf("the file of a new clerk: %q", f)
	}
	play(t, c, forms()...)
	want := "day 101\nshow moon 1300\nlicence 0 108\nsend moon ayr cam 480\ngot moon\nclose 760 31 18\nroll 1\n"
	if f := c.File(); f != want {
		t.Errorf("the file: %q", f)
	}
	d := opened(t, want)
	if !hasOf(d).isSame(hasOf(c)) {
		t.Errorf("the clerk of the file has %v, not %v", hasOf(d), hasOf(c))
	}
	play(t, d, ok("show moon 1300", "2"), ok("close 25 31 1", "-277 -277"), ok("purse", "100"))
	if f := d.File(); f != want+"show moon 1300\nclose 25 31 1\n" {
		t.Errorf("the file goes on with %q", f)
	}
	if f := c.File(); f != want {
		t.Errorf("the first file became %q", f)
	}
}

// P11.4: the errors of files, in their order.
func TestOpen(t *testing.T) {
	long := "day 5\n" + strings.Repeat("x", 60001-7) + "\n"
	all := strings.Repeat("day 7\n", 200)
	for i, x := range []struct {
		file string
		at   int
		e    api.Errno
	}{
		{"", 0, api.OK}, {"day 5\n", 1, api.OK}, {"day 5\nday 5\n", 2, api.OK}, {"day 5\nroll 0\nday 6\n", 3, api.OK},
		// texts that are too long, whatever they end with
		{long, 0, api.ErrLong}, {long + "x", 0, api.ErrLong}, {strings.Repeat("x", 60001), 0, api.ErrLong}, {strings.Repeat("\n", 60001), 0, api.ErrLong}, {strings.Repeat("x", 1<<20), 0, api.ErrLong}, {strings.Repeat("day 5\n", 10001), 0, api.ErrLong}, {long[1:], 0, api.ErrShowmanLine}, {long[:60000], 0, api.ErrForm}, {strings.Repeat("\n", 60000), 0, api.ErrShowmanLine}, {strings.Repeat("day 5\n", 10000), 200, api.ErrFull},
		// the last byte
		{"day 5", 0, api.ErrForm}, {"x", 0, api.ErrForm}, {"day 5\nday 6", 0, api.ErrForm}, {"today\nday 6", 0, api.ErrForm}, {"day 5\n ", 0, api.ErrForm}, {"day 5\r", 0, api.ErrForm}, {"day 5\n\x00", 0, api.ErrForm}, {" ", 0, api.ErrForm},
		// lines that do not have the form, empty ones among them
		{"\n", 0, api.ErrShowmanLine}, {"\n\n", 0, api.ErrShowmanLine}, {"\nday 5\n", 0, api.ErrShowmanLine}, {"day 5\n\n", 1, api.ErrShowmanLine}, {"day 5\n\nday 6\n", 1, api.ErrShowmanLine}, {"day 5\r\n", 0, api.ErrShowmanLine}, {"day 5\nday 6 \n", 1, api.ErrShowmanLine}, {"day 5\n day 6\n", 1, api.ErrShowmanLine}, {"day 5\nday 6\nx\nday 1\n", 2, api.ErrShowmanLine}, {"day 5\n" + strings.Repeat("a", 121) + "\n", 1, api.ErrShowmanLine},
		// lines that ask, whether they have an answer, are an error, or do not have the form
		{"today\n", 0, api.ErrShowmanLine}, {"day 5\ntoday\n", 1, api.ErrShowmanLine}, {"day 5\ntoday 5\n", 1, api.ErrShowmanLine}, {"lasts noon\n", 0, api.ErrShowmanLine}, {"lasts moon\n", 0, api.ErrShowmanLine}, {"why moon 1440\n", 0, api.ErrShowmanLine}, {"days 5\n", 0, api.ErrShowmanLine}, {"fee 105 105\n", 0, api.ErrShowmanLine}, {"order moon\n", 0, api.ErrShowmanLine}, {"spools race\n", 0, api.ErrShowmanLine}, {"route ayr ayr 5\n", 0, api.ErrShowmanLine}, {"reach ayr 5\n", 0, api.ErrShowmanLine}, {"away\n", 0, api.ErrShowmanLine}, {"tickets\n", 0, api.ErrShowmanLine}, {"purse\n", 0, api.ErrShowmanLine},
		// lines that are errors
		{"day 5\nday 4\n", 1, api.ErrRange}, {"day 1000\n", 0, api.ErrRange}, {"got noon\n", 0, api.ErrShowmanUnknown}, {"got moon\n", 0, api.ErrShowmanAway}, {"day 101\nshow moon 1351\n", 1, api.ErrShowmanNot}, {"send moon cam ayr 480\n", 0, api.ErrNone}, {"roll 0\nroll 1\nclose 760 31 18\nclose 760 31 18\n", 3, api.ErrShowmanFalse}, {"licence 0 108\nlicence 1 118\nlicence 1 130\n", 2, api.ErrShowmanMoney}, {"day 5\nday 4\nx\n", 1, api.ErrRange}, {"day 5\nx\nday 4\n", 1, api.ErrShowmanLine},
		// 200 lines, and no more
		{all, 200, api.OK}, {all + "day 8\n", 200, api.ErrFull}, {all + "got noon\n", 200, api.ErrFull}, {all + "today\n", 200, api.ErrShowmanLine}, {all + "\n", 200, api.ErrShowmanLine}, {all + "day\n", 200, api.ErrShowmanLine}, {all + "day 8", 0, api.ErrForm},
	} {
		c, at, e := showman.Open(example(), x.file)
		if at != x.at || e != x.e || (c != nil) != (x.e == api.OK) {
			t.Errorf("Open %d, of %.40q: %v, %d, %d", i, x.file, c != nil, at, e)
		}
		if c != nil && c.File() != x.file {
			t.Errorf("the file %d became %.40q", i, c.File())
		}
	}
}

// P11.4, P11.6: a full journal is opened again, and is full.
func TestFullFile(t *testing.T) {
	c := opened(t, "day 101\n"+strings.Repeat("show moon 1300\n", 40)+strings.Repeat("roll 0\n", 159))
	play(t, c, full("day 102"), full("got noon"), no("day", api.ErrShowmanLine), ok("today", "101"), ok("lasts moon", "17220 26080"))
	if f := c.File(); len(f) != 8+40*15+159*7 || len(c.Shows()) != 40 {
		t.Errorf("%v", hasOf(c))
	}
	// the longest lines that can be
	name := "a23456789012"
	long := []change{names(name, "race"), stations(name, "b23456789012", "c23456789012")}
	line := "send " + name + " " + name + " c23456789012 480\ngot " + name + "\n"
	c = opened(t, strings.Repeat(line, 100), long...)
	if d := opened(t, c.File(), long...); !hasOf(d).isSame(hasOf(c)) || len(d.Journal()) != 200 {
		t.Errorf("%v", hasOf(d))
	}
}
