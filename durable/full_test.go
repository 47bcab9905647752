package durable_test

import (
	"fmt"
	"slices"
	"strings"
	"testing"

	"regesta/api"
	"regesta/base"
	"regesta/disk"
	"regesta/durable"
	"regesta/wal"
)

// full has no sector left: of its half of two the first one has the table, the second one a row.
func full(t *testing.T) (*disk.Disk, *durable.Durable) {
	t.Helper()
	d, x := made(t, 4, createT, "0 insert into t values (1, 0) from 0 to 10 => 0 1 1")
	want(t, "Records", x.Records(), 2)
	return d, x
}

// Outside of a session all is as if nothing had been said, the last effect too.
func TestP25_2FullOutsideOfASession(t *testing.T) {
	d, x := full(t)
	play(t, x, "tick 5")
	for _, lines := range [][]string{{}, {"2 begin => 0 0 5", "2 update t set v = 8 => 0 1 0"}} {
		play(t, x, lines...)
		disk, ahead := image(t, d), whole(x.Base())
		for _, line := range []string{"0 insert into t values (2, 0) from 0 to 10 => 15 0 0", "1 update t set v = 5 from 2 to 4 => 15 0 0", "3 delete t => 15 0 0"} {
			for range 2 {
				play(t, x, line)
				want(t, "what there is behind "+line, whole(x.Base()), ahead)
				want(t, "the disk behind "+line, image(t, d), disk)
				want(t, "Lost, Records", fmt.Sprint(x.Lost(), x.Records()), "false 2")
			}
		}
		// What is refused anyway has its own error.
		play(t, x, "0 insert into t values (1, 0) from 0 to 10 => 11 0 0", "0 insert into t values (1) from 0 to 10 => 9 0 0", "0 delete t where k = 2 => 0 0 0", "0 select * in t => 0 1 0 1,0:0-10")
	}
}

func TestP25_2FullAtCreateAndPrune(t *testing.T) {
	_, x := full(t)
	ahead := whole(x.Base())
	play(t, x, "0 create table u (a int) => 15 0 0")
	want(t, "what there is", whole(x.Base()), ahead)
	// What has ended is not laid in partitions either.
	_, x = made(t, 6, createT, "0 insert into t values (1, 0) from 0 to 10 => 0 1 1", "0 delete t => 0 1 2", "tick 9")
	ahead = whole(x.Base())
	play(t, x, "0 prune 0 => 15 0 0")
	want(t, "what there is", whole(x.Base()), ahead)
	play(t, x, "0 select * in t as of 1 => 0 1 0 1,0:0-10", "check => 0", "0 prune 0 => 0 1 2", "0 select * in t as of 1 => 14 0 0")
}

// The commit's session is ended, as if it had been rolled back; others stay. What session 1 did needs two sectors, what session 2 did the one that is left.
func TestP25_2FullAtCommit(t *testing.T) {
	d, x := made(t, 6, createT, "0 insert into t values (1, 0) from 0 to 10 => 0 1 1")
	play(t, x, "1 begin => 0 0 1", "2 begin => 0 0 1", "1 update t set v = 5 => 0 1 0", "2 delete t => 0 1 0")
	twin := x.Base()
	disk := image(t, d)
	play(t, x, "1 commit => 15 0 0")
	want(t, "Rollback", toldReply(twin.Do(1, "rollback")), "0 0 0")
	want(t, "what there is", whole(x.Base()), whole(twin))
	want(t, "the disk", image(t, d), disk)
	want(t, "Open", fmt.Sprint(x.Base().Open(1), x.Base().Open(2)), "false true")
	play(t, x, "1 commit => 7 0 0", "1 rollback => 7 0 0", "1 begin => 0 0 1", "1 select * in t => 0 1 0 1,0:0-10", "2 select * in t => 0 0 0")
	// What was refused was written by nobody.
	play(t, x, "2 commit => 0 0 2", "0 select * in t => 0 0 0")
	want(t, "Records", x.Records(), 3)
}

// A statement that opens a session that is open, or asks in one, has its own error, however full the disk is.
func TestP25_2FullCommitOfNoChange(t *testing.T) {
	_, x := full(t)
	play(t, x, "1 begin => 0 0 1", "1 update t set v = 0 => 0 1 0", "1 commit => 0 0 0", "1 begin => 0 0 1", "1 update t set v = 1 => 0 1 0", "1 update t set v = 0 => 0 1 0", "1 commit => 0 0 0")
	want(t, "Open", x.Base().Open(1), false)
}

// wide are so many statements that insert rows of four texts of eight runes of four bytes each.
func wide(id, first, count int) []string {
	var lines []string
	for k := range count {
		text := func(c int) string { return "'" + strings.Repeat(string(rune(0x1F600+c)), 8) + "'" }
		lines = append(lines, fmt.Sprintf("%d insert into %s values (%s, %s, %s, %s) from 0 to %d => 0 1", id, string(rune('a'+(first+k)/15)), text(first+k), text(0), text(1), text(2), k+1))
	}
	return lines
}

func inSession(lines []string) []string {
	var l []string
	for _, line := range lines {
		l = append(l, line+" 0")
	}
	return l
}

func wideTables(t *testing.T) (*disk.Disk, *durable.Durable) {
	t.Helper()
	return made(t, api.MaxSectors, "0 create table a (k text, v text, w text, x text) => 0 0 0", "0 create table b (k text, v text, w text, x text) => 0 0 0")
}

// bytesOfCommit are those of a commit's record.
func bytesOfCommit(t *testing.T, b *base.Base, id int) int {
	t.Helper()
	fork := b.Fork()
	want(t, "commit", fork.Do(id, "commit").Errno, api.OK)
	return len(bytesOf(t, fork.Effect()))
}

func TestP25_2RecordsThatAreTooLong(t *testing.T) {
	want(t, "Most", wal.Most(), most)
	met := map[api.Errno]int{}
	for count := 20; count <= 30; count++ {
		d, x := wideTables(t)
		// All of the other half is free then, and the log has one record of a few pieces.
		play(t, x, "1 begin => 0 0 0", "2 begin => 0 0 0")
		play(t, x, inSession(wide(1, 0, count))...)
		size := bytesOfCommit(t, x.Base(), 1)
		wanted := api.OK
		if pieces := (size + room - 1) / room; pieces > api.MaxSectors/2-len(records(t, d)) {
			wanted = api.ErrFull
		}
		twin := x.Base()
		if wanted == api.OK {
			twin.Do(1, "commit")
		} else {
			twin.Do(1, "rollback")
		}
		want(t, fmt.Sprint("commit of ", size, " bytes"), x.Do(1, "commit").Errno, wanted)
		want(t, "what there is", whole(x.Base()), whole(twin))
		want(t, "Lost", x.Lost(), false)
		if wanted == api.ErrFull {
			want(t, "Records", x.Records(), 2)
			play(t, x, "1 select * in a => 0 0 0", "1 create table c (k int) => 7 0 0", "2 rollback => 0 0 0", "1 create table c (k int) => 0 0 0")
		}
		if size > most {
			wanted = api.ErrRange
		}
		met[wanted]++
	}
	for _, errno := range []api.Errno{api.OK, api.ErrRange} {
		if met[errno] < 2 {
			t.Errorf("a record that is answered with %d was met %d times", errno, met[errno])
		}
	}
}

func TestP25_2CheckThatIsTooLong(t *testing.T) {
	met := map[api.Errno]int{}
	for count := 20; count <= 26; count++ {
		d, x := wideTables(t)
		play(t, x, "1 begin => 0 0 0")
		play(t, x, inSession(wide(1, 0, count))...)
		if x.Do(1, "commit").Errno != api.OK {
			continue
		}
		wanted := api.OK
		if len(bytesOf(t, x.Base().Whole())) > most {
			wanted = api.ErrFull
		}
		disk, ahead := image(t, d), whole(x.Base())
		want(t, "Check", x.Check(), wanted)
		want(t, "what there is", whole(x.Base()), ahead)
		want(t, "Lost", x.Lost(), false)
		if wanted == api.ErrFull {
			want(t, "the disk", image(t, d), disk)
			want(t, "Records", x.Records(), 3)
		}
		want(t, "what is on the disk", kept(open(t, d.Fork()).Base()), kept(x.Base()))
		met[wanted]++
	}
	if met[api.OK] == 0 || met[api.ErrFull] == 0 {
		t.Errorf("met %v", met)
	}
}

// What is committed goes into the log, but all there is would not go into a half.
func TestP25_2CheckOfMoreThanAHalfHas(t *testing.T) {
	d, x := made(t, 8, createT, "0 begin => 0 0 0")
	for k := range 6 {
		play(t, x, fmt.Sprintf("0 insert into t values (%d, 0) from 0 to 10 => 0 1 0", k))
	}
	play(t, x, "0 commit => 0 0 1", "1 begin => 0 0 1")
	disk, ahead := image(t, d), whole(x.Base())
	play(t, x, "check => 15", "check => 15")
	want(t, "Lost, Records", fmt.Sprint(x.Lost(), x.Records()), "false 2")
	want(t, "what there is", whole(x.Base()), ahead)
	want(t, "the disk", image(t, d), disk)
	d.Crash(nil)
	want(t, "Open", kept(open(t, d).Base()), kept(x.Base()))
}

// At the last epoch nothing more can be switched, but the store is not lost.
func TestP25_2CheckAtTheLastEpoch(t *testing.T) {
	d := disk.New(16)
	want(t, "Write", d.Write(15, []byte{0xFF, 0xFD}), api.OK)
	x := open(t, d)
	play(t, x, createT, "check => 0", "check => 4", "check => 4", "0 insert into t values (1, 0) from 0 to 10 => 0 1 1", "0 select * in t => 0 1 0 1,0:0-10")
	want(t, "Lost, Records", fmt.Sprint(x.Lost(), x.Records()), "false 2")
}

func TestP25_2CheckLaysAllThereIs(t *testing.T) {
	d, x := made(t, 64)
	play(t, x, "check => 0")
	want(t, "the log", fmt.Sprintf("%x", records(t, d)), fmt.Sprintf("%x", [][]byte{bytesOf(t, api.Effect{Kind: api.WholeIt})}))
	play(t, x, createT, "0 insert into t values (1, 0) from 0 to 10 => 0 1 1", "0 update t set v = 1 => 0 1 2", "0 update t set v = 2 => 0 1 3", "tick 2", "0 prune 0 => 0 1 2", "tick 7", "1 begin => 0 0 9", "1 update t set v = 3 => 0 1 0")
	for range 3 {
		ahead := whole(x.Base())
		play(t, x, "check => 0")
		want(t, "what there is", whole(x.Base()), ahead)
		want(t, "Records, Waiting", fmt.Sprint(x.Records(), d.Waiting()), "1 0")
		want(t, "the log", fmt.Sprintf("%x", records(t, d)), fmt.Sprintf("%x", [][]byte{bytesOf(t, x.Base().Whole())}))
	}
	// The session goes on.
	play(t, x, "1 commit => 0 0 10")
	want(t, "Records", x.Records(), 2)
	want(t, "Open", kept(open(t, d).Base()), kept(x.Base()))
}

// When the disk goes off in the midst of a statement's record, the answer is the error alone, the store is lost, and is as it was ahead.
func TestP25_2TheDiskFails(t *testing.T) {
	for _, line := range []string{"0 insert into t values (2, 0) from 0 to 10", "0 update t set v = 5 from 2 to 4", "0 delete t", "1 commit", "0 prune 0", "0 create table u (k int, v text, w int, x int) references t by w"} {
		steps := 0
		for cut := 0; ; cut++ {
			d, x := made(t, 64, createT, "0 insert into t values (1, 0) from 0 to 10 => 0 1 1", "0 update t set v = 1 => 0 1 2", "tick 2")
			if line == "1 commit" {
				play(t, x, "1 begin => 0 0 2", "1 update t set v = 7 from 1 to 2 => 0 1 0", "1 insert into t values (9, 9) from 1 to 2 => 0 1 0")
			}
			ahead, count := whole(x.Base()), x.Records()
			d.Cut(cut)
			var id int
			var text string
			fmt.Sscan(line, &id)
			_, text, _ = strings.Cut(line, " ")
			r := x.Do(id, text)
			if r.Errno == api.OK {
				want(t, "Lost, Records", fmt.Sprint(x.Lost(), x.Records()), fmt.Sprint(false, " ", count+1))
				steps = cut
				break
			}
			want(t, line, toldReply(r), "7 0 0")
			want(t, "Lost, Off", fmt.Sprint(x.Lost(), d.Off()), "true true")
			lostForGood(t, d, x, ahead)
		}
		if steps < 2 {
			t.Errorf("%s: the disk is asked %d times", line, steps)
		}
	}
}

// lostForGood tells whether a store that is lost answers and is as such, even when its disk is there again.
func lostForGood(t *testing.T, d *disk.Disk, x *durable.Durable, ahead string) {
	t.Helper()
	count := x.Records()
	for range 2 {
		play(t, x, "0 begin => 7 0 0", "1 select * in t => 7 0 0", "9 begin => 7 0 0", "0 selec => 7 0 0", "0  => 7 0 0", "1 commit => 7 0 0", "1 rollback => 7 0 0", "tick 5", "check => 7")
		want(t, "what there is", whole(x.Base()), ahead)
		want(t, "Lost, Records", fmt.Sprint(x.Lost(), x.Records()), fmt.Sprint(true, " ", count))
		d.Crash(nil)
		disk := image(t, d)
		play(t, x, "check => 7", "0 delete t => 7 0 0")
		want(t, "the disk", image(t, d), disk)
	}
}

func TestP25_2CheckWhenTheDiskFails(t *testing.T) {
	steps := 0
	for cut := 0; ; cut++ {
		d, x := made(t, 64, createT, "0 insert into t values (1, 0) from 0 to 10 => 0 1 1", "0 update t set v = 1 from 0 to 3 => 0 1 2", "1 begin => 0 0 2")
		ahead := whole(x.Base())
		d.Cut(cut)
		errno := x.Check()
		if errno == api.OK {
			want(t, "Lost, Records", fmt.Sprint(x.Lost(), x.Records()), "false 1")
			steps = cut
			break
		}
		want(t, "Check", errno, api.ErrState)
		want(t, "Lost, Records", fmt.Sprint(x.Lost(), x.Records()), "true 3")
		lostForGood(t, d, x, ahead)
	}
	if steps < 3 {
		t.Errorf("the disk is asked %d times", steps)
	}
}

func TestP25_2Tick(t *testing.T) {
	_, x := made(t, 16)
	for _, n := range []int{3, 0, -1, -1 << 63, 4} {
		x.Tick(n)
	}
	want(t, "Clock", x.Base().Clock(), 7)
	play(t, x, createT)
	x.Tick(1)
	want(t, "Effect behind Tick", x.Base().Effect().Kind, api.NoEffect)
	play(t, x, "0 insert into t values (1, 0) from 0 to 10 => 0 1 9")
	x.Tick(1<<63 - 1)
	want(t, "Clock", x.Base().Clock(), api.MaxClock)
	want(t, "Records", x.Records(), 2)
}

func TestP25_2BaseIsAFork(t *testing.T) {
	_, x := made(t, 64, createT, "0 insert into t values (1, 0) from 0 to 10 => 0 1 1", "1 begin => 0 0 1", "1 update t set v = 5 => 0 1 0")
	b := x.Base()
	ahead := whole(b)
	b.Tick(50)
	for _, text := range []string{"rollback", "delete t", "create table u (a int)", "prune 0"} {
		want(t, text, b.Do(1, text).Errno, api.OK)
	}
	want(t, "what there is", whole(x.Base()), ahead)
	b = x.Base()
	play(t, x, "1 commit => 0 0 2", "1 delete t => 0 1 3", "tick 3")
	want(t, "what was there", whole(b), ahead)
}

func TestP1Nil(t *testing.T) {
	var none *durable.Durable
	for _, text := range []string{"", "begin", "selec", "select * in t", "create table t (k int)"} {
		for _, id := range []int{0, -1, 4} {
			want(t, "Do of nil", toldReply(none.Do(id, text)), "1 0 0")
		}
	}
	none.Tick(5)
	want(t, "Check of nil", none.Check(), api.ErrNil)
	if none.Base() != nil || none.Lost() || none.Records() != 0 {
		t.Error("nil answers more than nothing")
	}
}

func TestP3RepliesAreTheCallers(t *testing.T) {
	_, x := made(t, 64, createT, "0 insert into t values (1, 0) from 0 to 10 => 0 1 1")
	e := x.Base().Effect()
	clear(e.Changes[0].Come[0].Vals)
	clear(e.Changes)
	want(t, "Come", toldRow(x.Base().Effect().Changes[0].Come[0].Vals, api.Span{}), "1,0:0-0")
	ahead := kept(x.Base())
	for _, id := range []int{0, 1} {
		r := x.Do(id, "select * in t as of 1")
		r.Rows[0].Vals[0].Num = 77
		clear(r.Rows[:cap(r.Rows)])
	}
	want(t, "what there is", kept(x.Base()), ahead)
	play(t, x, "0 select * in t as of 1 => 0 1 0 1,0:0-10")
}

// Two stores on disks of their own are of no matter to one another.
func TestP6NothingIsKept(t *testing.T) {
	var all []string
	for range 2 {
		_, x := made(t, 16, createT, "0 insert into t values (1, 0) from 0 to 10 => 0 1 1")
		_, y := made(t, 16, "0 create table u (k int) => 0 0 0")
		play(t, y, "0 insert into t values (1, 0) from 0 to 10 => 5 0 0")
		play(t, x, "0 select * in t => 0 1 0 1,0:0-10")
		all = append(all, whole(x.Base())+whole(y.Base()))
	}
	if len(slices.Compact(all)) != 1 {
		t.Errorf("%q differ", all)
	}
}
