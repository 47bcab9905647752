package script_test

import (
	"fmt"
	"strings"
	"testing"

	"regesta/api"
	"regesta/disk"
	"regesta/durable"
	"regesta/script"
	"regesta/value"
)

type dice struct{ seed uint64 }

func (d *dice) below(n int) int {
	d.seed = d.seed*6364136223846793005 + 1442695040888963407
	return int(d.seed >> 33 % uint64(n))
}

func (d *dice) one(l ...string) string { return l[d.below(len(l))] }

func (d *dice) span() string {
	from := d.below(12) - 4
	return fmt.Sprintf(" from %d to %d", from, from+1+d.below(8))
}

// statement is of a few keys and values, so that sessions meet.
func (d *dice) statement() string {
	k, v := d.below(4), d.below(3)
	where := d.one("", fmt.Sprintf(" where k = %d", k), fmt.Sprintf(" where v < %d", v))
	time := d.one("", "", fmt.Sprintf(" as of %d", d.below(20)), fmt.Sprintf(" from %d to %d", d.below(10), 10+d.below(30)))
	switch d.below(16) {
	case 0, 1:
		return "begin"
	case 2, 3:
		return "commit"
	case 4:
		return "rollback"
	case 5:
		return fmt.Sprintf("prune %d", d.below(9))
	case 6, 7, 8:
		return fmt.Sprintf("insert into t values (%d, %d)%s", k, v, d.span())
	case 9:
		return fmt.Sprintf("insert into a values ('%s')%s", d.one("", "x", "y'' z"), d.span())
	case 10, 11:
		return fmt.Sprintf("update t set v = %d%s%s", v, d.one("", d.span()), where)
	case 12:
		return "delete t" + d.one("", d.span()) + where
	case 13:
		return d.one("create table t (k int, v int)", "create table a (s text)", "delete a", "", "selec")
	}
	return d.one("select * in t"+time+where, "select v in t"+time, "select * in a"+time)
}

// model does what a line says by the calls of the layers ahead.
type model struct {
	disk  *disk.Disk
	store *durable.Durable
}

func (m *model) open() string {
	store, errno := durable.Open(m.disk)
	m.store = store
	return fmt.Sprint(int(errno))
}

func toldRow(t *testing.T, vals []api.Value, s api.Span) string {
	t.Helper()
	text := ""
	for i, v := range vals {
		told, errno := value.Print(v)
		if errno != api.OK {
			t.Fatalf("%v can't be", v)
		}
		if i > 0 {
			text += ","
		}
		text += told
	}
	return fmt.Sprintf("%s:%d-%d", text, s.From, s.To)
}

func toldReply(t *testing.T, r api.Reply) string {
	t.Helper()
	text := fmt.Sprintf("%d %d %d", r.Errno, r.Count, r.At)
	for _, o := range r.Rows {
		text += " " + toldRow(t, o.Vals, o.Span)
		if o.Sys.From != 0 || o.Sys.To != 0 {
			text += fmt.Sprintf("@%d-%d", o.Sys.From, o.Sys.To)
		}
	}
	return text
}

func (m *model) rows(t *testing.T, id int) string {
	t.Helper()
	view, errno := m.store.Base().View(id)
	if errno != api.OK {
		return fmt.Sprint(int(errno))
	}
	text := ""
	for _, name := range []string{"a", "t"} {
		for i, r := range view.Get(name) {
			if i == 0 {
				text += " " + name
			}
			text += " " + toldRow(t, r.Vals, r.Span)
		}
	}
	if text == "" {
		return "-"
	}
	return text[1:]
}

// asking is a line that only asks, and what it answers.
func (d *dice) asking(t *testing.T, m *model) (string, string) {
	t.Helper()
	id := d.below(6)
	kind, text := d.below(4), d.statement()
	line := []string{"clock", "stored", fmt.Sprint("rows ", id), fmt.Sprint("plan ", id, " ", text)}[kind]
	if kind == 3 && text == "" {
		return line, "word"
	}
	if m.store == nil {
		return line, "lost"
	}
	b := m.store.Base()
	switch kind {
	case 0:
		return line, fmt.Sprintf("%d %d %d %d", b.Clock(), b.Past().Last(), b.Past().Horizon(), m.store.Records())
	case 1:
		force, loose, laid := b.Past().Stored()
		return line, fmt.Sprintf("%d %d %d", force, loose, laid)
	case 2:
		return line, m.rows(t, id)
	}
	told, errno := b.Explain(id, text)
	if errno != api.OK {
		told = fmt.Sprint(int(errno))
	}
	return line, told
}

// doing is a line that does something, and what it answers.
func (d *dice) doing(t *testing.T, m *model) (string, string) {
	t.Helper()
	switch n := d.below(20); d.below(28) {
	case 0:
		m.disk = disk.New([]int{4, 8, 12, 64, 128, 3, 0, 200}[n%8])
		return fmt.Sprint("disk ", []int{4, 8, 12, 64, 128, 3, 0, 200}[n%8]), m.open()
	case 1, 2:
		line := "crash"
		var keep []bool
		for range n % 6 {
			keep = append(keep, d.below(3) > 0)
			line += map[bool]string{false: " 0", true: " 1"}[keep[len(keep)-1]]
		}
		m.disk.Crash(keep)
		return line, m.open()
	case 3:
		if m.store == nil {
			return "cut 5", "lost"
		}
		m.disk.Cut(n)
		return fmt.Sprint("cut ", n), "ok"
	case 4:
		if m.store == nil {
			return "check", "lost"
		}
		return "check", fmt.Sprint(int(m.store.Check()))
	case 5, 6:
		if m.store == nil {
			return "tick 1", "lost"
		}
		m.store.Tick(n)
		return fmt.Sprint("tick ", n), "ok"
	}
	id, text := d.below(5), d.statement()
	line := fmt.Sprint(id, " ", text)
	if text == "" {
		return line, "word"
	}
	if m.store == nil {
		return line, "lost"
	}
	return line, toldReply(t, m.store.Do(id, text))
}

// saying are lines, and what they answer; asks tells which of them only ask.
func (d *dice) saying(t *testing.T, count int) (lines, answers []string, asks []bool) {
	t.Helper()
	m := &model{disk: disk.New(64)}
	m.open()
	for len(lines) < count {
		ask := d.below(3) == 0
		say := d.doing
		if ask {
			say = d.asking
		}
		line, answer := say(t, m)
		// More blanks change nothing.
		if d.below(6) == 0 {
			line = "  " + strings.ReplaceAll(line, " ", "   ") + " "
		}
		lines, answers, asks = append(lines, line), append(answers, answer), append(asks, ask)
	}
	return lines, answers, asks
}

func ended(l []string) string {
	text := ""
	for _, s := range l {
		text += s + "\n"
	}
	return text
}

func TestP26_1LongScripts(t *testing.T) {
	d := &dice{seed: 26}
	met := map[string]int{}
	for range 150 {
		lines, answers, _ := d.saying(t, 120)
		text := ended(lines)
		if len(text) > api.MaxScript {
			t.Fatalf("a script of %d bytes", len(text))
		}
		got := strings.Split(script.Run(text), "\n")
		for i, answer := range answers {
			met[strings.Fields(answer)[0]]++
			if got[i] != answer {
				t.Fatalf("line %d: %s => %s, not %s", i+1, lines[i], got[i], answer)
			}
		}
		is(t, "Run without the last line feed", script.Run(strings.TrimSuffix(text, "\n")), ended(answers))
		is(t, "Run of empty lines, too", script.Run(strings.ReplaceAll(text, "\n", "\n\n \n")), ended(answers))
	}
	for _, answer := range []string{"0", "2", "5", "7", "8", "11", "13", "14", "15", "word", "lost", "ok", "-", "t"} {
		if met[answer] < 10 {
			t.Errorf("%s was met %d times", answer, met[answer])
		}
	}
}

// What a script answers begins with what its first lines answer.
func TestP26_2Beginnings(t *testing.T) {
	d := &dice{seed: 262}
	for range 25 {
		lines, _, _ := d.saying(t, 60)
		all := script.Run(ended(lines))
		for n := range lines {
			if begun := script.Run(ended(lines[:n])); !strings.HasPrefix(all, begun) || strings.Count(begun, "\n") != n {
				t.Fatalf("%q answers %q, with more lines %q", lines[:n], begun, all)
			}
		}
	}
}

// Lines that only ask, left out or put between all others, change no answer of these.
func TestP26_3AskingChangesNothing(t *testing.T) {
	d := &dice{seed: 263}
	asking := []string{"rows 0", "rows 1", "rows 9", "plan 0 select * in t where k = 1", "plan 1 begin", "plan 9 x", "stored", "clock"}
	for range 60 {
		lines, answers, asks := d.saying(t, 70)
		var others, wanted, mixed []string
		for i, line := range lines {
			if asks[i] {
				continue
			}
			others, wanted = append(others, line), append(wanted, answers[i])
			mixed = append(mixed, line)
			mixed = append(mixed, asking...)
			mixed = append(mixed, asking...)
		}
		is(t, "Run without those that ask", script.Run(ended(others)), ended(wanted))
		each := 1 + 2*len(asking)
		longest := min(len(mixed), 25*each)
		got := strings.Split(script.Run(ended(mixed[:longest])), "\n")
		for i := 0; i < longest; i += each {
			is(t, mixed[i], got[i], wanted[i/each])
			is(t, "what was asked twice", ended(got[i+1:i+each/2+1]), ended(got[i+each/2+1:i+each]))
		}
	}
}
