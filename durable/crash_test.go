package durable_test

import (
	"fmt"
	"slices"
	"strings"
	"testing"

	"regesta/api"
	"regesta/base"
	"regesta/disk"
	"regesta/durable"
	"regesta/wal"
)

const points = 12

type dice struct{ seed uint64 }

func (d *dice) below(n int) int {
	d.seed = d.seed*6364136223846793005 + 1442695040888963407
	return int(d.seed >> 33 % uint64(n))
}

func (d *dice) one(l ...string) string { return l[d.below(len(l))] }

func (d *dice) span() string {
	from := d.below(points)
	return fmt.Sprintf(" from %d to %d", from, from+1+d.below(points-from))
}

// statement is of a few keys and values, so that sessions meet.
func (d *dice) statement() string {
	k, v := d.below(4), d.below(3)
	where := d.one("", fmt.Sprintf(" where k = %d", k), fmt.Sprintf(" where v < %d", v))
	time := d.one("", "", fmt.Sprintf(" as of %d", d.below(40)), fmt.Sprintf(" from %d to %d", d.below(30), 30+d.below(30)))
	switch d.below(20) {
	case 0, 1:
		return "begin"
	case 2, 3:
		return "commit"
	case 4:
		return "rollback"
	case 5, 6:
		return fmt.Sprintf("prune %d", d.below(12))
	case 7:
		return d.one("create table t (k int, v int)", "create table u (m int, n int) references t by n", "create table a (s text)")
	case 8, 9, 10, 11:
		return fmt.Sprintf("insert into t values (%d, %d)%s", k, v, d.span())
	case 12:
		return fmt.Sprintf("insert into u values (%d, %d)%s", v, k, d.span())
	case 13:
		return fmt.Sprintf("insert into a values ('%s')%s", d.one("", "x", "y''"), d.span())
	case 14, 15:
		return fmt.Sprintf("update t set v = %d%s%s", v, d.one("", d.span()), where)
	case 16:
		return "delete t" + d.one("", d.span()) + where
	case 17:
		return "delete " + d.one("u", "a") + d.one("", d.span())
	}
	return d.one("select * in t"+time+where, "select m, n in u"+time, "select v, m in t join u on k = n"+time, "selec")
}

// mirror is what a store must be: a base that no disk disturbs, what is on the disk as effects, and how much of a half these need.
type mirror struct {
	base    *base.Base
	effects []api.Effect
	size    int // sectors of a half
	used    int
}

func sectorsOf(t *testing.T, e api.Effect) int {
	t.Helper()
	return (len(bytesOf(t, e)) + room - 1) / room
}

// do answers as the store must, as long as its disk does not go off.
func (m *mirror) do(t *testing.T, id int, text string) string {
	t.Helper()
	ahead := m.base.Fork()
	r := m.base.Do(id, text)
	e := m.base.Effect()
	if e.Kind == api.NoEffect {
		return toldReply(r)
	}
	if m.used+sectorsOf(t, e) > m.size {
		m.base = ahead
		if ahead.Open(id) {
			ahead.Do(id, "rollback")
		}
		return "15 0 0"
	}
	m.effects = append(m.effects, e)
	m.used += sectorsOf(t, e)
	return toldReply(r)
}

func (m *mirror) check(t *testing.T) api.Errno {
	t.Helper()
	e := m.base.Whole()
	if sectorsOf(t, e) > m.size {
		return api.ErrFull
	}
	m.effects, m.used = []api.Effect{e}, sectorsOf(t, e)
	return api.OK
}

// crashed is the base that the effects make.
func (m *mirror) crashed(t *testing.T) *base.Base {
	t.Helper()
	b := base.New()
	for _, e := range m.effects {
		want(t, "Replay", b.Replay(e), api.OK)
	}
	return b
}

func alike(t *testing.T, what string, x *durable.Durable, m *mirror) {
	t.Helper()
	want(t, "what there is behind "+what, whole(x.Base()), whole(m.base))
	want(t, "Records, Lost behind "+what, fmt.Sprint(x.Records(), x.Lost()), fmt.Sprint(len(m.effects), " ", false))
}

// Long runs of all sessions, on disks that are too small soon, with Checks, and crashes at times at which nothing is on its way.
func TestP25_2LongRuns(t *testing.T) {
	d := &dice{seed: 25}
	met := map[api.Errno]int{}
	for run := range 60 {
		size := []int{12, 20, 32, 128, 128}[run%5]
		on := disk.New(size)
		x, m := open(t, on), &mirror{base: base.New(), size: size / 2}
		for _, text := range []string{"create table t (k int, v int)", "create table u (m int, n int) references t by n"} {
			want(t, text, toldReply(x.Do(0, text)), m.do(t, 0, text))
		}
		for range 250 {
			switch d.below(40) {
			case 0:
				want(t, "Check", x.Check(), m.check(t))
			case 1:
				on.Crash([]bool{true})
				x, m.base = open(t, on), m.crashed(t)
			case 2, 3, 4, 5, 6:
				n := d.below(4) - 1
				x.Tick(n)
				m.base.Tick(n)
			default:
				id, text := d.below(sessions+1), d.statement()
				r := x.Do(id, text)
				want(t, text, toldReply(r), m.do(t, id, text))
				met[r.Errno]++
				if r.Errno == api.ErrFull && d.below(4) == 0 {
					want(t, "Check", x.Check(), m.check(t))
				}
			}
			alike(t, "a step", x, m)
		}
		want(t, "what is on the disk", whole(open(t, on.Fork()).Base()), whole(m.crashed(t)))
	}
	for _, errno := range []api.Errno{api.ErrRange, api.ErrState, api.ErrSyntax, api.ErrKey, api.ErrRef, api.ErrClash, api.ErrPruned, api.ErrFull} {
		if met[errno] < 10 {
			t.Errorf("the error %d was met %d times", errno, met[errno])
		}
	}
	if met[api.OK] < 2000 {
		t.Errorf("only %d statements were done", met[api.OK])
	}
}

// do is a check, or a session's statement.
func do(x *durable.Durable, line string) api.Errno {
	if line == "check" {
		return x.Check()
	}
	var id int
	fmt.Sscan(line, &id)
	_, text, _ := strings.Cut(line, " ")
	return x.Do(id, text).Errno
}

// choices are all lists of so many bools.
func choices(n int) [][]bool {
	l := [][]bool{nil}
	for range n {
		var longer [][]bool
		for _, c := range l {
			longer = append(longer, append(slices.Clone(c), false), append(slices.Clone(c), true))
		}
		l = longer
	}
	return l
}

// The disk goes off at each Write and Flush of a run, and each choice of the Writes that waited is kept: what is there is all that was answered with OK, or that and the one step that was on its way. Of what there is then, the same holds once more.
func TestP25_3CrashesAtEachStep(t *testing.T) {
	lines := []string{
		"0 create table t (k int, v int)", "0 insert into t values (1, 0) from 0 to 10", "0 update t set v = 5 from 2 to 4", "check", "1 begin", "1 update t set v = 6 from 1 to 9", "1 insert into t values (2, 0) from 0 to 10", "1 commit",
		"0 delete t from 3 to 5", "0 create table u (a text)", "check", "0 insert into u values ('x') from 0 to 5",
	}
	again := []string{"0 insert into t values (8, 0) from 0 to 10", "0 update t set v = 7 from 0 to 9 where k = 8"}
	crashes, whole := 0, 0
	tried := map[string]struct{}{}
	// From what is on the disk, the runs go on, as deep as is asked for.
	var crash func(from *disk.Disk, lines []string, deep int)
	crash = func(from *disk.Disk, lines []string, deep int) {
		for cut := 0; ; cut++ {
			d := from.Fork()
			x := open(t, d)
			d.Cut(cut)
			done := 0
			states := []string{kept(x.Base())}
			for done < len(lines) {
				do(x, lines[done])
				if x.Lost() {
					break
				}
				done++
				states = append(states, kept(x.Base()))
			}
			if done == len(lines) {
				want(t, "Off", d.Off(), false)
				return
			}
			next := after(t, from, lines[:done+1])
			for _, keep := range choices(d.Waiting()) {
				behind := d.Fork()
				behind.Crash(keep)
				y := open(t, behind)
				got := kept(y.Base())
				if got != states[done] && got != next {
					t.Fatalf("cut behind %d, kept %v, in the midst of %s: there is\n%s, not\n%s, nor\n%s", cut, keep, lines[done], got, states[done], next)
				}
				if !slices.Contains(keep, true) {
					want(t, "what was flushed", got, states[done])
				}
				if !slices.Contains(keep, false) && len(keep) > 0 && got == next {
					whole++
				}
				crashes++
				if _, is := tried[image(t, behind)]; deep > 0 && !is {
					tried[image(t, behind)] = struct{}{}
					crash(behind, again, deep-1)
				}
			}
		}
	}
	_, x := made(t, 32)
	for _, line := range lines {
		want(t, line, do(x, line), api.OK)
	}
	crash(disk.New(32), lines, 1)
	if crashes < 1000 || whole < 20 {
		t.Errorf("%d crashes, of which %d left the last step whole", crashes, whole)
	}
}

// after is what there is behind lines, if the disk does not go off.
func after(t *testing.T, from *disk.Disk, lines []string) string {
	t.Helper()
	x := open(t, from.Fork())
	for _, line := range lines {
		do(x, line)
	}
	want(t, "Lost", x.Lost(), false)
	return kept(x.Base())
}

// A record's pieces are all on the disk or not, however the Writes were kept: of one that needs n pieces only the choice of all leaves it.
func TestP25_3WholeOrNotAtAll(t *testing.T) {
	line := "0 update t set v = 7 from 0 to 9"
	for cut := range 5 {
		d, x := made(t, 64, createT, "0 insert into t values (1, 0) from 0 to 10 => 0 1 1", "0 insert into t values (2, 0) from 0 to 10 => 0 1 2")
		ahead := kept(x.Base())
		b := x.Base()
		b.Do(0, "update t set v = 7 from 0 to 9")
		pieces := sectorsOf(t, b.Effect())
		d.Cut(cut)
		if do(x, line) == api.OK {
			want(t, "pieces", fmt.Sprint(pieces, " ", cut), "3 4")
			continue
		}
		for _, keep := range choices(d.Waiting()) {
			behind := d.Fork()
			behind.Crash(keep)
			wanted := ahead
			if len(keep) == pieces && !slices.Contains(keep, false) {
				wanted = kept(b)
			}
			want(t, fmt.Sprint("what there is, of ", keep), kept(open(t, behind).Base()), wanted)
		}
	}
}

// Many crashes of one disk, at any time, with any Writes kept: what there is goes on from the one or the other.
func TestP25_3ManyCrashesOfOneDisk(t *testing.T) {
	d := &dice{seed: 253}
	crashes, more := 0, 0
	for run := range 30 {
		size := []int{8, 32, 128}[run%3]
		on := disk.New(size)
		x := open(t, on)
		horizon := 0
		for range 60 {
			on.Cut(d.below(12))
			ahead, behind := kept(x.Base()), ""
			for range 30 {
				ahead = kept(x.Base())
				if d.below(9) == 0 {
					behind = ahead
					x.Check()
				} else {
					id, text := d.below(sessions), d.statement()
					b := x.Base()
					b.Do(id, text)
					behind = kept(b)
					x.Do(id, text)
				}
				if x.Lost() {
					break
				}
				x.Tick(d.below(3))
			}
			if !x.Lost() {
				ahead = kept(x.Base())
				behind = ahead
			}
			want(t, "Horizon", x.Base().Past().Horizon() >= horizon, true)
			keep := make([]bool, d.below(8))
			for i := range keep {
				keep[i] = d.below(3) > 0
			}
			on.Crash(keep)
			x = open(t, on)
			got := kept(x.Base())
			if got != ahead && got != behind {
				t.Fatalf("there is\n%s, not\n%s, nor\n%s", got, ahead, behind)
			}
			want(t, "Horizon", x.Base().Past().Horizon() >= horizon, true)
			horizon = x.Base().Past().Horizon()
			crashes++
			if got != ahead {
				more++
			}
		}
	}
	if crashes < 1000 || more < 20 {
		t.Errorf("%d crashes, of which %d had one more", crashes, more)
	}
}

// An instant that was given by a commit is not given again, and what was pruned stays so.
func TestP25_4TheHorizonNeverFalls(t *testing.T) {
	lines := []string{createT, "0 insert into t values (1, 0) from 0 to 10 => 0 1 1", "0 update t set v = 1 => 0 1 2", "0 update t set v = 2 => 0 1 3", "tick 2", "0 prune 0 => 0 1 2"}
	for _, more := range [][]string{nil, {"check => 0"}, {"0 prune 1 => 0 0 2", "check => 0", "0 prune 2 => 0 0 2"}} {
		d, x := made(t, 64, lines...)
		play(t, x, more...)
		for range 3 {
			d.Crash(nil)
			x = open(t, d)
			want(t, "Horizon", x.Base().Past().Horizon(), 2)
			play(t, x, "0 select * in t as of 1 => 14 0 0", "0 select * in t as of 2 => 0 1 0 1,1:0-10", "0 select * in t as of 3 => 0 1 0 1,2:0-10", "0 prune 9 => 0 0 2")
		}
		play(t, x, "0 update t set v = 3 => 0 1 4", "0 prune 0 => 0 1 3")
		d.Crash(nil)
		want(t, "Horizon", open(t, d).Base().Past().Horizon(), 3)
	}
}

// What was there ahead of an ErrFull is there behind it, in the store and behind a crash; a Check makes room.
func TestP25_5FullLosesNothing(t *testing.T) {
	d, x := made(t, 16, createT)
	met := 0
	for k := range 40 {
		ahead := kept(x.Base())
		r := x.Do(0, fmt.Sprintf("insert into t values (%d, 0) from 0 to 10", k%16))
		switch r.Errno {
		case api.ErrFull:
			met++
			want(t, "what there is", kept(x.Base()), ahead)
			y := d.Fork()
			y.Crash(nil)
			want(t, "behind a crash", kept(open(t, y).Base()), ahead)
			if met%2 == 0 {
				forget(t, x)
			}
		case api.OK:
			y := d.Fork()
			y.Crash(nil)
			want(t, "behind a crash", kept(open(t, y).Base()), kept(x.Base()))
		}
	}
	if met < 6 {
		t.Errorf("ErrFull was met %d times", met)
	}
}

// forget lets go of what a store has, as far as it has room.
func forget(t *testing.T, x *durable.Durable) {
	t.Helper()
	for k := range 16 {
		want(t, "Check", x.Check(), api.OK)
		x.Do(0, fmt.Sprintf("delete t where k = %d", k))
	}
	want(t, "Check", x.Check(), api.OK)
	x.Tick(50)
	x.Do(0, "prune 0")
	want(t, "Check", x.Check(), api.OK)
}

// Of two stores one is checked at any time: they tell the same, but for their records, and for what has no room.
func TestP25_6CheckChangesNothing(t *testing.T) {
	d := &dice{seed: 256}
	for range 20 {
		_, x := made(t, 128)
		_, y := made(t, 128)
		checks := 0
		for range 150 {
			if d.below(4) == 0 {
				want(t, "Check", x.Check(), api.OK)
				checks++
			}
			id, text := d.below(sessions), d.statement()
			r := y.Do(id, text)
			if r.Errno == api.ErrFull {
				break
			}
			want(t, text, toldReply(x.Do(id, text)), toldReply(r))
			n := d.below(3)
			x.Tick(n)
			y.Tick(n)
			want(t, "what there is", whole(x.Base()), whole(y.Base()))
		}
		if checks < 5 {
			t.Errorf("%d checks", checks)
		}
	}
}

// The chapter's example, with each choice of what is kept.
func TestExampleOfTheChapter(t *testing.T) {
	met := map[string]int{}
	for cut := range 2 {
		for _, keep := range [][]bool{nil, {false}, {true}, {true, true}} {
			d, x := made(t, 16, createT, "0 insert into t values (1, 0) from 0 to 10 => 0 1 1")
			d.Cut(cut)
			play(t, x, "0 insert into t values (2, 0) from 0 to 10 => 7 0 0")
			d.Crash(keep)
			met[toldReply(open(t, d).Do(0, "select * in t"))]++
		}
	}
	want(t, "select * in t", met, map[string]int{"0 1 0 1,0:0-10": 6, "0 2 0 1,0:0-10 2,0:0-10": 2})
}

// A log that somebody else keeps on the disk has the store's records, and the store those of the log.
func TestTheLogIsThatOfWal(t *testing.T) {
	d, x := made(t, 32, createT, "0 insert into t values (1, 0) from 0 to 10 => 0 1 1")
	w, l, errno := wal.Open(d)
	want(t, "Open of the log", fmt.Sprint(errno, len(l)), "0 2")
	_, errno = w.Append(bytesOf(t, commit(7, []api.Row{row(0, 10, 1, 0)}, nil)))
	want(t, "Append, Flush", fmt.Sprint(errno, w.Flush()), "0 0")
	play(t, x, "0 select * in t => 0 1 0 1,0:0-10")
	play(t, open(t, d), "0 select * in t => 0 0 0", "0 insert into t values (1, 0) from 0 to 10 => 0 1 8")
}
