package script_test

import (
	"fmt"
	"math"
	"slices"
	"strconv"
	"strings"
	"testing"

	"regesta/api"
	"regesta/script"
)

// The calls are those of the chapter.
var (
	_ func(string) string      = script.Run
	_ func(api.Reply) string   = script.Told
	_ func(string) []string    = script.Words
	_ func(string) (int, bool) = script.Number
)

// answers plays lines, each of which says after => what it must answer; without => it says nothing.
func answers(t *testing.T, lines ...string) {
	t.Helper()
	var asked, wanted []string
	for _, line := range lines {
		says, answer, speaks := strings.Cut(line, " => ")
		asked = append(asked, says)
		if speaks {
			wanted = append(wanted, says+" => "+answer)
		}
	}
	got := strings.Split(script.Run(strings.Join(asked, "\n")), "\n")
	if last := got[len(got)-1]; last != "" || len(got) != len(wanted)+1 {
		t.Fatalf("%d lines are answered, not %d: %q", len(got)-1, len(wanted), got)
	}
	for i, line := range wanted {
		says, answer, _ := strings.Cut(line, " => ")
		if got[i] != answer {
			t.Fatalf("line %d: %s => %s, not %s", i+1, says, got[i], answer)
		}
	}
}

func is(t *testing.T, call, got, want string) {
	t.Helper()
	if got != want {
		t.Errorf("%s = %q, not %q", call, got, want)
	}
}

func TestExampleOfTheChapter(t *testing.T) {
	is(t, "Run", script.Run("0 create table t (a int)\n0 insert into t values (1) from 0 to 5\nrows 0"), "0 0 0\n0 1 1\nt 1:0-5\n")
}

func TestExamplesOfTheWhole(t *testing.T) {
	answers(t, "0 create table t (k int, v int) => 0 0 0",
		"0 insert into t values (1, 0) from 0 to 10 => 0 1 1",
		"0 update t set v = 5 from 2 to 4 => 0 1 2",
		"0 select * in t as of 1 => 0 1 0 1,0:0-10",
		"0 select * in t as of 2 => 0 3 0 1,0:0-2 1,0:4-10 1,5:2-4",
		"0 begin => 0 0 2", "1 begin => 0 0 2", "0 update t set v = 6 => 0 3 0", "1 update t set v = 7 where k = 1 => 0 3 0", "0 commit => 0 0 3", "1 commit => 13 0 0",
		"tick 3 => ok", "0 prune 0 => 0 4 3", "0 select * in t as of 1 => 14 0 0")
}

func TestWords(t *testing.T) {
	// Only blanks stand between words.
	for line, want := range map[string][]string{
		"": nil, " ": nil, "   ": nil, "a": {"a"}, " a  b ": {"a", "b"}, "0 insert  into": {"0", "insert", "into"}, "a\tb c": {"a\tb", "c"}, "a\nb c\r": {"a\nb", "c\r"},
		"ä€ 😀": {"ä€", "😀"}, "\xff \xfe\x20\xe2\x82": {"\xff", "\xfe", "\xe2\x82"}, "a\u00a0b\u2003c": {"a\u00a0b\u2003c"}, "'a  b'": {"'a", "b'"}, "\x00 \x00": {"\x00", "\x00"},
	} {
		if got := script.Words(line); !slices.Equal(got, want) {
			t.Errorf("Words(%q) = %q, not %q", line, got, want)
		}
	}
}

// texts calls with all texts of at most so many of these signs.
func texts(signs []string, most int, with func(s string)) {
	with("")
	if most == 0 {
		return
	}
	for _, sign := range signs {
		texts(signs, most-1, func(s string) { with(sign + s) })
	}
}

func TestWordsOfAllShortLines(t *testing.T) {
	texts([]string{" ", "a", "€", "\xff", "\t"}, 5, func(line string) {
		want := slices.DeleteFunc(strings.Split(line, " "), func(s string) bool { return s == "" })
		if got := script.Words(line); !slices.Equal(got, want) {
			t.Fatalf("Words(%q) = %q, not %q", line, got, want)
		}
	})
}

func TestNumber(t *testing.T) {
	for n := range 10000 {
		if got, ok := script.Number(strconv.Itoa(n)); got != n || !ok {
			t.Fatalf("Number(%d) = %d, %t", n, got, ok)
		}
	}
	for _, s := range []string{"", "00", "01", "007", "0000", "0001", "00000", "10000", "12345", "99999", "-1", "-0", "+1", "1.", "1e3", "0x1", "1_0", " 1", "1 ", "1a", "a", "٣", "１", "\xff", "12\x00", "9223372036854775808", strings.Repeat("9", 1000)} {
		if n, ok := script.Number(s); n != 0 || ok {
			t.Errorf("Number(%q) = %d, %t", s, n, ok)
		}
	}
}

func TestNumberOfAllShortTexts(t *testing.T) {
	texts([]string{"0", "1", "9", "-", "+", "a", "٣"}, 5, func(s string) {
		want, err := strconv.Atoi(s)
		right := err == nil && want >= 0 && want <= 9999 && strconv.Itoa(want) == s
		if !right {
			want = 0
		}
		if n, ok := script.Number(s); n != want || ok != right {
			t.Fatalf("Number(%q) = %d, %t", s, n, ok)
		}
	})
}

func num(n int64) api.Value  { return api.Value{Kind: api.Int, Num: n} }
func str(s string) api.Value { return api.Value{Kind: api.Text, Str: s} }

func out(from, to, begin, end int, vals ...api.Value) api.Out {
	return api.Out{Vals: vals, Span: api.Span{From: from, To: to}, Sys: api.Span{From: begin, To: end}}
}

func TestTold(t *testing.T) {
	for want, r := range map[string]api.Reply{
		"0 0 0":                         {},
		"3 1 2":                         {Errno: 3, Count: 1, At: 2},
		"-1 -20 -300":                   {Errno: -1, Count: -20, At: -300},
		"99 0 1073741824":               {Errno: 99, At: api.MaxClock},
		"0 1 0 1:0-5":                   {Count: 1, Rows: []api.Out{out(0, 5, 0, 0, num(1))}},
		"7 2 1 -5,'a b':-3--1@3-7 :0-0": {Errno: 7, Count: 2, At: 1, Rows: []api.Out{out(-3, -1, 3, 7, num(-5), str("a b")), {}}},
		"0 0 0 '','it''s',7:1-2@0-1":    {Rows: []api.Out{out(1, 2, 0, 1, str(""), str("it's"), num(7))}},
	} {
		is(t, "Told", script.Told(r), want)
	}
	// The count is told as it stands, whatever rows there are; Sys, unless it is 0 to 0.
	is(t, "Told", script.Told(api.Reply{Count: 9, Rows: []api.Out{out(1, 2, 0, api.Forever, num(1)), out(1, 2, 3, 0, num(1)), out(1, 2, -1, 0, num(1)), out(2, 1, 5, 5, num(1))}}), "0 9 0 1:1-2@0-1099511627776 1:1-2@3-0 1:1-2@-1-0 1:2-1@5-5")
	is(t, "Told", script.Told(api.Reply{Errno: math.MinInt, Count: math.MaxInt, At: math.MinInt, Rows: []api.Out{out(math.MinInt, math.MaxInt, math.MaxInt, math.MinInt, num(math.MinInt64))}}),
		"-9223372036854775808 9223372036854775807 -9223372036854775808 -9223372036854775808:-9223372036854775808-9223372036854775807@9223372036854775807--9223372036854775808")
}

// A value that can't be is told by a ?, the others of its row as ever.
func TestToldOfWrongValues(t *testing.T) {
	for _, v := range []api.Value{{}, {Kind: 3}, {Kind: 255, Num: 1}, {Kind: api.Int, Str: "a"}, {Kind: api.Text, Num: 1}, str("123456789"), str("\xff"), str("a\nb"), str("\x7f"), {Num: 5}, {Str: "a"}} {
		is(t, fmt.Sprint("Told of ", v), script.Told(api.Reply{Rows: []api.Out{out(0, 1, 0, 0, num(1), v, str("x")), out(0, 1, 0, 0, v), out(0, 1, 0, 0, v, v)}}), "0 0 0 1,?,'x':0-1 ?:0-1 ?,?:0-1")
	}
}

func TestToldLeavesTheReply(t *testing.T) {
	rows := []api.Out{out(0, 1, 0, 0, num(1)), out(0, 1, 0, 0, num(2)), out(7, 8, 9, 10, num(3))}
	r := api.Reply{Rows: rows[:1]}
	script.Told(r)
	is(t, "the reply", fmt.Sprint(rows), fmt.Sprint([]api.Out{out(0, 1, 0, 0, num(1)), out(0, 1, 0, 0, num(2)), out(7, 8, 9, 10, num(3))}))
}

func TestRunOfLines(t *testing.T) {
	for text, want := range map[string]string{
		"":                               "",
		"\n":                             "",
		"\n\n\n":                         "",
		"   ":                            "",
		" \n  \n":                        "",
		"clock":                          "0 0 0 0\n",
		"clock\n":                        "0 0 0 0\n",
		"clock\n\n":                      "0 0 0 0\n",
		"\nclock":                        "0 0 0 0\n",
		"clock\nclock":                   "0 0 0 0\n0 0 0 0\n",
		"  clock  \n   tick   5 \nclock": "0 0 0 0\nok\n5 0 0 0\n",
		"clock\r\n":                      "word\n",
		"\tclock":                        "word\n",
		"clock\tclock":                   "word\n",
		"\x00":                           "word\n",
		"\xff\xfe\n\xff":                 "word\nword\n",
		"clock\u2028clock":               "word\n",
		"clock\vclock\fclock":            "word\n",
	} {
		is(t, fmt.Sprintf("Run(%q)", text), script.Run(text), want)
	}
}

func TestRunOfLongTexts(t *testing.T) {
	line := "clock\n"
	for _, more := range []int{0, 1, 2, 100, 100000} {
		text := strings.Repeat(line, 100)
		text += strings.Repeat(" ", api.MaxScript-len(text)+more)
		want := strings.Repeat("0 0 0 0\n", 100)
		if more > 0 {
			want = "long\n"
		}
		is(t, fmt.Sprint("Run of ", len(text), " bytes"), script.Run(text), want)
	}
	is(t, "Run of line feeds", script.Run(strings.Repeat("\n", api.MaxScript)), "")
	is(t, "Run of line feeds", script.Run(strings.Repeat("\n", api.MaxScript+1)), "long\n")
	// Bytes are counted, not runes.
	is(t, "Run of €", script.Run(strings.Repeat("€", api.MaxScript/3+1)), "long\n")
}

// wrong are lines that are none of those of the chapter.
func wrong() []string {
	return []string{
		"0", "9", "  3", "4   ", "10", "00", "x", "begin", "select * in t", "10 begin", "00 begin", "-1 begin", "0begin", "+0 begin", "٣ begin", "0, begin", "Tick 5", "TICK 5", "ticks 5", "tic 5",
		"tick", "tick x", "tick -1", "tick 10000", "tick 01", "tick 00", "tick 1 2", "tick 5 x", "tick 5.", "tick +5", "tick 0x5", "tick ٣",
		"check 0", "check check", "checks", "clock 0", "clock clock", "clocks", "stored 1", "stored t",
		"cut", "cut x", "cut -1", "cut 10000", "cut 05", "cut 1 1", "disk", "disk x", "disk -4", "disk 10000", "disk 064", "disk 64 64", "disk 4 x",
		"crash 2", "crash 1 2", "crash 10", "crash 01", "crash x", "crash 1 1 1 x", "crash -1", "crash true", "crash 1 00", "crash 1,0",
		"rows", "rows x", "rows -1", "rows 00", "rows 0 0", "rows 0 t", "rows t", "plan", "plan 0", "plan 9  ", "  plan  1", "plan 10", "plan x", "plan plan 0 x", "plan x select * in t", "plan 10 select * in t", "plan 00 select * in t", "plan -1 select * in t", "plan select * in t",
	}
}

func TestRunOfWrongLines(t *testing.T) {
	for _, line := range wrong() {
		// They do nothing either, and are what they are also when the disk has no store.
		answers(t, "0 create table t (k int) => 0 0 0", "0 insert into t values (1) from 0 to 5 => 0 1 1", "1 begin => 0 0 1", "1 insert into t values (2) from 0 to 5 => 0 1 0", line+" => word", "clock => 0 1 0 2", "rows 0 => t 1:0-5", "rows 1 => t 1:0-5 2:0-5", "1 commit => 0 0 2",
			"disk 3 => 2", line+" => word", "clock => lost", "disk 64 => 0", line+" => word", "clock => 0 0 0 0",
			"cut 0 => ok", "0 create table t (k int) => 7 0 0", line+" => word", "check => 7")
	}
}

func TestRunOfStatements(t *testing.T) {
	answers(t, "0 create table t (k int, v text) => 0 0 0", "0 insert into t values (1, 'a b') from 0 to 5 => 0 1 1", "3 insert into t values (-2, 'it''s') from -3 to -1 => 0 1 2",
		"1 select * in t => 0 2 0 -2,'it''s':-3--1 1,'a b':0-5", "2 select v in t from 1 to 3 => 0 2 0 'it''s':-3--1@2-3 'a b':0-5@1-3",
		"0 create table t (k int) => 6 0 0", "0 insert into x values (1) from 0 to 5 => 5 0 0", "0 insert into t values ('a', 'b') from 0 to 5 => 9 0 0", "0 insert into t values (1, 'b') from 5 to 5 => 10 0 0", "0 insert into t values (1, 'b') from 4 to 5 => 11 0 0",
		"0 x => 8 0 0", "9 begin => 2 0 0", "4 begin => 2 0 0", "5 select * in t => 2 0 0", "0 commit => 7 0 0",
		// The words are told with one blank between, so that within a text there is one, too.
		"   3    insert into    t values (3, 'x    y') from 0 to    1   => 0 1 3", "3 select * in t where k = 3 => 0 1 0 3,'x y':0-1",
		"0 begin => 0 0 3", "1 begin => 0 0 3", "0 delete t => 0 3 0", "1 delete t from 0 to 1 => 0 2 0", "0 commit => 0 0 4", "1 commit => 13 0 0", "1 rollback => 7 0 0")
}

func TestRunOfTheClock(t *testing.T) {
	answers(t, "clock => 0 0 0 0", "tick 0 => ok", "clock => 0 0 0 0", "tick 3 => ok", "clock => 3 0 0 0", "tick 9999 => ok", "clock => 10002 0 0 0",
		"0 create table t (k int, v int) => 0 0 0", "clock => 10002 0 0 1", "0 insert into t values (1, 0) from 0 to 5 => 0 1 10003", "clock => 10002 10003 0 2", "1 begin => 0 0 10003", "tick 7 => ok", "2 begin => 0 0 10009", "clock => 10009 10003 0 2",
		"1 rollback => 0 0 0", "2 commit => 0 0 0", "0 update t set v = 1 => 0 1 10010", "clock => 10009 10010 0 3", "tick 1 => ok", "0 prune 5 => 0 0 10005", "clock => 10010 10010 10005 4", "0 prune 0 => 0 1 10010", "clock => 10010 10010 10010 5",
		"check => 0", "clock => 10010 10010 10010 1")
}

func TestRunOfStored(t *testing.T) {
	answers(t, "stored => 0 0 0", "0 create table t (k int, v int) => 0 0 0", "stored => 0 0 0", "0 insert into t values (1, 0) from 0 to 5 => 0 1 1", "stored => 1 0 0", "0 insert into t values (2, 0) from 0 to 5 => 0 1 2", "0 update t set v = 1 => 0 2 3", "stored => 2 2 0",
		"0 prune 9 => 0 0 0", "stored => 2 0 2", "0 delete t where k = 1 => 0 1 4", "stored => 1 1 2", "crash => 0", "stored => 1 3 0", "0 prune 0 => 0 3 4", "stored => 1 0 0")
}

func TestRunOfRows(t *testing.T) {
	answers(t, "rows 0 => -", "rows 3 => -", "0 create table t (k int, v text) => 0 0 0", "rows 0 => -", "0 create table a (k int) => 0 0 0",
		"0 insert into t values (2, 'a b') from 0 to 5 => 0 1 1", "0 insert into t values (2, 'it''s') from 5 to 6 => 0 1 2", "0 insert into t values (-1, '') from -5 to -3 => 0 1 3", "rows 0 => t -1,'':-5--3 2,'a b':0-5 2,'it''s':5-6",
		// Tables come in the order of their names, and those without rows not at all.
		"0 insert into a values (7) from -1000 to 1000 => 0 1 4", "rows 1 => a 7:-1000-1000 t -1,'':-5--3 2,'a b':0-5 2,'it''s':5-6",
		// Of a session that is open it is what that one sees.
		"1 begin => 0 0 4", "1 delete t => 0 3 0", "2 begin => 0 0 4", "0 delete a => 0 1 5", "rows 1 => a 7:-1000-1000", "rows 2 => a 7:-1000-1000 t -1,'':-5--3 2,'a b':0-5 2,'it''s':5-6", "rows 0 => t -1,'':-5--3 2,'a b':0-5 2,'it''s':5-6", "rows 3 => t -1,'':-5--3 2,'a b':0-5 2,'it''s':5-6",
		"1 delete a => 0 1 0", "rows 1 => -", "1 rollback => 0 0 0", "rows 1 => t -1,'':-5--3 2,'a b':0-5 2,'it''s':5-6", "rows 4 => 2", "rows 9 => 2", "rows 10 => 2", "rows 9999 => 2", "0 delete t => 0 3 6", "rows 0 => -")
}

func TestRunOfPlan(t *testing.T) {
	answers(t, "0 create table t (k int, v text) => 0 0 0", "0 create table u (m text, n int) => 0 0 0",
		"plan 0 select * in t => t scan", "plan 1 select * in t where k = -1 => t key -1", "plan 2 select v in t where (v = 'a' and k = 5) => t key 5", "plan 3 select * in u where m = 'it''s' => u key 'it''s'", "plan 0 select * in t join u on k = n where (m = 'x' and k = 1) => t key 1, u key 'x'",
		"plan 0 delete t => 3", "plan 0 begin => 3", "plan 0 select * in x => 5", "plan 0 select * in t where v = 1 => 9", "plan 0 selec => 8", "plan 0 x => 8", "plan 4 select * in t => 2", "plan 9 x => 2", "  plan   0   select *   in t => t scan", "clock => 0 0 0 2")
}

func TestRunOfCheck(t *testing.T) {
	answers(t, "check => 0", "clock => 0 0 0 1", "0 create table t (k int, v int) => 0 0 0", "0 insert into t values (1, 0) from 0 to 5 => 0 1 1", "clock => 0 1 0 3", "check => 0", "clock => 0 1 0 1", "crash => 0", "rows 0 => t 1,0:0-5", "clock => 1 1 0 1",
		"disk 4 => 0", "0 create table t (k int, v int) => 0 0 0", "check => 0", "0 insert into t values (1, 0) from 0 to 5 => 0 1 1", "0 insert into t values (2, 0) from 0 to 5 => 15 0 0", "check => 0", "clock => 0 1 0 1", "0 delete t => 15 0 0", "rows 0 => t 1,0:0-5")
}

// On the first disk, of 64 sectors, a half has room for 32 records of one.
func TestRunAtFirst(t *testing.T) {
	lines := []string{"0 create table t (k int) => 0 0 0"}
	for i := range 31 {
		if i%2 == 0 {
			lines = append(lines, fmt.Sprintf("0 insert into t values (1) from 0 to 5 => 0 1 %d", i+1))
		} else {
			lines = append(lines, fmt.Sprintf("0 delete t => 0 1 %d", i+1))
		}
	}
	lines = append(lines, "clock => 0 31 0 32", "0 delete t => 15 0 0", "rows 0 => t 1:0-5", "disk 66 => 0", "clock => 0 0 0 0")
	answers(t, lines...)
	// It is the same one in each run.
	answers(t, "clock => 0 0 0 0", "rows 0 => -", "0 create table t (k int) => 0 0 0")
}

func TestRunOfDisk(t *testing.T) {
	answers(t, "0 create table t (k int) => 0 0 0", "0 begin => 0 0 0", "tick 5 => ok", "disk 4 => 0", "clock => 0 0 0 0", "rows 0 => -", "0 commit => 7 0 0", "0 create table t (k int) => 0 0 0", "crash => 0", "0 create table t (k int) => 6 0 0", "disk 128 => 0", "0 create table t (k int) => 0 0 0")
	for size, errno := range map[int]int{0: 1, 1: 2, 2: 2, 3: 2, 5: 2, 63: 2, 127: 2, 129: 1, 130: 1, 9999: 1} {
		answers(t, "0 create table t (k int) => 0 0 0", fmt.Sprintf("disk %d => %d", size, errno),
			"0 begin => lost", "0 => word", "plan 1 => word", "9 x => lost", "tick 5 => lost", "check => lost", "cut 0 => lost", "rows 0 => lost", "rows 9 => lost", "plan 0 select * in t => lost", "plan 9 x => lost", "stored => lost", "clock => lost", "word => word", "", "tick => word",
			// The disk is that one, and no other.
			fmt.Sprintf("crash => %d", errno), "clock => lost", fmt.Sprintf("crash 1 0 => %d", errno), fmt.Sprintf("disk %d => %d", size, errno), "clock => lost",
			"disk 6 => 0", "clock => 0 0 0 0", "0 create table t (k int) => 0 0 0", "crash => 0", "rows 0 => -", "0 create table t (k int) => 6 0 0")
	}
}

// What cut says when the disk has no store is not done at the disk either.
func TestRunOfCutWithoutAStore(t *testing.T) {
	answers(t, "disk 3 => 2", "cut 0 => lost", "crash => 2", "disk 4 => 0", "0 create table t (k int) => 0 0 0")
}

const (
	ahead  = "t 1,0:0-10 2,0:0-10"
	behind = "t 1,0:5-10 1,5:0-5 2,0:5-10 2,5:0-5"

	// Of three sectors; behind them a Flush.
	update = "0 update t set v = 5 from 0 to 5"
)

// twoRows plays lines behind those that make what stands ahead of update.
func twoRows(t *testing.T, lines ...string) {
	t.Helper()
	begin := []string{"0 create table t (k int, v int) => 0 0 0", "0 insert into t values (1, 0) from 0 to 10 => 0 1 1", "0 insert into t values (2, 0) from 0 to 10 => 0 1 2"}
	answers(t, append(begin, lines...)...)
}

// cutAndCrashed is what a crash leaves of update, in the midst of which the disk went off.
func cutAndCrashed(t *testing.T, cut int, word, left string, instant int) {
	t.Helper()
	twoRows(t, fmt.Sprintf("cut %d => ok", cut), update+" => 7 0 0", word+" => 0", "rows 0 => "+left, "rows 1 => "+left,
		fmt.Sprintf("0 insert into t values (7, 7) from 0 to 1 => 0 1 %d", instant), "check => 0", "crash => 0", "rows 0 => "+left+" 7,7:0-1")
}

// The Writes that wait when the disk goes off are kept one by one; only all of a record's sectors are one.
func TestRunOfCutAndCrash(t *testing.T) {
	for cut, words := range [][]string{
		0: {"crash", "crash 0", "crash 1", "crash 1 1 1 1"},
		1: {"crash", "crash 0", "crash 1", "crash 1 1 1 1"},
		2: {"crash", "crash 1", "crash 1 1", "crash 0 1", "crash 1 1 1 1"},
		3: {"crash", "crash 0 0 0", "crash 1", "crash 1 1", "crash 1 1 0", "crash 1 0 1", "crash 0 1 1", "crash 0 0 1", "crash 1 1 0 1"},
	} {
		for _, word := range words {
			cutAndCrashed(t, cut, word, ahead, 3)
		}
	}
	for _, word := range []string{"crash 1 1 1", "crash 1 1 1 0", "crash 1 1 1 1 0 1", "  crash   1  1 1 "} {
		cutAndCrashed(t, 3, word, behind, 4)
	}
}

// A store that is lost tells what it has, and does nothing any more.
func TestRunOfALostStore(t *testing.T) {
	for cut := range 4 {
		records := 3
		if cut == 3 {
			// The record is in the log, but not flushed.
			records = 4
		}
		twoRows(t, "tick 1 => ok", "1 begin => 0 0 2", "1 delete t => 0 2 0", fmt.Sprintf("cut %d => ok", cut), update+" => 7 0 0",
			"0 begin => 7 0 0", "0 selec => 7 0 0", "9 begin => 7 0 0", "1 commit => 7 0 0", "1 select * in t => 7 0 0", "0 => word", "check => 7", "tick 5 => ok", "cut 9 => ok", "x => word",
			"rows 0 => "+ahead, "rows 1 => -", "rows 9 => 2", "plan 0 select * in t => t scan", "plan 0 x => 8", "plan 0 => word", "stored => 2 0 0", fmt.Sprintf("clock => 1 2 0 %d", records))
	}
}

func TestRunOfCut(t *testing.T) {
	// Four Writes and Flushes are done, the next one is not.
	twoRows(t, "cut 4 => ok", update+" => 0 2 3", "clock => 0 3 0 4", "0 begin => 0 0 3", "0 delete t => 0 4 0", "0 commit => 7 0 0", "crash => 0", "rows 0 => "+behind, "clock => 3 3 0 4")
	twoRows(t, "cut 0 => ok", "cut 100 => ok", update+" => 0 2 3", "cut 9999 => ok", "crash => 0", "rows 0 => "+behind)
	// A disk that is cut is not any more behind a crash, and another one never was.
	twoRows(t, "cut 0 => ok", "crash 1 => 0", update+" => 0 2 3")
	twoRows(t, "cut 0 => ok", "disk 8 => 0", "0 create table t (k int) => 0 0 0")
	// What has no effect does not ask the disk.
	twoRows(t, "cut 0 => ok", "0 select * in t => 0 2 0 1,0:0-10 2,0:0-10", "0 begin => 0 0 2", "0 delete t => 0 2 0", "0 rollback => 0 0 0", "0 delete t where k = 9 => 0 0 0", "rows 0 => "+ahead)
}

// A crash of what was flushed leaves it, and ends sessions; the clock goes on from the last instant.
func TestRunOfCrash(t *testing.T) {
	for _, word := range []string{"crash", "crash 1", "crash 0 1 0 1"} {
		twoRows(t, "1 begin => 0 0 2", "1 delete t => 0 2 0", "tick 9 => ok", word+" => 0", "clock => 2 2 0 3", "rows 1 => "+ahead, "1 rollback => 7 0 0", word+" => 0", "clock => 2 2 0 3")
	}
}

// All there is needs two sectors, and a Flush.
func TestRunOfCheckThatIsCut(t *testing.T) {
	for cut := range 3 {
		twoRows(t, fmt.Sprintf("cut %d => ok", cut), "check => 7", "check => 7", "clock => 0 2 0 3", "crash 1 0 1 1 => 0", "clock => 2 2 0 3", "rows 0 => "+ahead)
	}
	twoRows(t, "cut 2 => ok", "check => 7", "crash 1 1 => 0", "clock => 2 2 0 1", "rows 0 => "+ahead, "cut 2 => ok", "check => 7", "crash 0 1 => 0", "clock => 2 2 0 1", "rows 0 => "+ahead)
}
