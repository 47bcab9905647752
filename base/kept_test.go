package base_test

import (
	"fmt"
	"math"
	"slices"
	"strings"
	"testing"

	"regesta/api"
	"regesta/base"
	"regesta/keep"
	"regesta/redo"
	"regesta/rows"
)

// history has at the instants 1, 2, 12, 13 and 14 five commits; the clock is at 11, and the versions of one row ended at 12, 13 and 14.
func history(t *testing.T) *base.Base {
	t.Helper()
	return made(t, "0 create table t (k int, v int) => 0 0 0", "0 insert into t values (1, 0) from 0 to 10 => 0 1 1", "0 insert into t values (2, 0) from 0 to 10 => 0 1 2", "tick 11",
		"0 update t set v = 1 where k = 1 => 0 1 12", "0 update t set v = 2 where k = 1 => 0 1 13", "0 update t set v = 3 where k = 1 => 0 1 14")
}

func TestP23_1Prune(t *testing.T) {
	// Down to the clock less A.
	b := history(t)
	play(t, b, "0 prune 0 => 0 0 11")
	wantEffect(t, b, "3 at 0 down to 11")
	play(t, b, "tick 1", "0 prune 0 => 0 1 12")
	wantEffect(t, b, "3 at 0 down to 12")
	play(t, b, "0 select * in t as of 11 => 14 0 0", "0 select * in t as of 12 => 0 2 0 1,1:0-10 2,0:0-10")
	// The horizon does not rise, or would fall: nothing is told as done.
	for _, age := range []int{0, 1, 12, 13, 1000, clock} {
		play(t, b, fmt.Sprintf("0 prune %d => 0 0 12", age))
		wantEffect(t, b, noEffect)
	}
	play(t, b, "tick 1", "0 prune 1 => 0 0 12")
	wantEffect(t, b, noEffect)
	play(t, b, "0 prune 0 => 0 1 13")
	wantEffect(t, b, "3 at 0 down to 13")
	// Not beyond Last.
	play(t, b, "tick 100", "0 prune 0 => 0 1 14")
	wantEffect(t, b, "3 at 0 down to 14")
	play(t, b, "0 prune 0 => 0 0 14", "0 select * in t => 0 2 0 1,3:0-10 2,0:0-10")
	wantEffect(t, b, noEffect)
}

func TestP23_1PruneByAge(t *testing.T) {
	for age, wanted := range map[int]string{0: "0 3 14", 6: "0 3 14", 7: "0 2 13", 8: "0 1 12", 9: "0 0 11", 19: "0 0 1", 20: "0 0 0", 21: "0 0 0", clock: "0 0 0"} {
		b := history(t)
		play(t, b, "tick 9", fmt.Sprintf("0 prune %d => %s", age, wanted))
	}
	b := made(t)
	play(t, b, "0 prune 0 => 0 0 0", "tick 5", "0 prune 0 => 0 0 0")
	wantEffect(t, b, noEffect)
}

func TestP23_1PruneAndSessions(t *testing.T) {
	b := history(t)
	play(t, b, "tick 50", "1 begin => 0 0 61", "1 prune 0 => 7 0 0", "1 prune 1073741825 => 2 0 0", "0 prune 0 => 0 3 14")
	// Not beyond the oldest one that is open.
	b = made(t, "0 create table t (k int, v int) => 0 0 0", "0 insert into t values (1, 0) from 0 to 10 => 0 1 1", "tick 5",
		"2 begin => 0 0 5", "0 update t set v = 1 => 0 1 6", "3 begin => 0 0 6", "0 update t set v = 2 => 0 1 7", "0 update t set v = 3 => 0 1 8", "tick 95")
	want(t, "Clock", b.Clock(), 100)
	play(t, b, "0 prune 0 => 0 0 5")
	wantEffect(t, b, "3 at 0 down to 5")
	play(t, b, "2 select * in t => 0 1 0 1,0:0-10", "2 select * in t as of 5 => 0 1 0 1,0:0-10", "0 select * in t as of 4 => 14 0 0", "0 prune 0 => 0 0 5", "2 prune 0 => 7 0 0", "2 rollback => 0 0 0", "2 prune 0 => 0 1 6")
	wantEffect(t, b, "3 at 0 down to 6")
	play(t, b, "3 commit => 0 0 0", "0 prune 0 => 0 2 8", "0 prune 0 => 0 0 8")
}

// What has ended is laid in partitions, also where the horizon does not rise.
func TestP23_1PruneRolls(t *testing.T) {
	b := history(t)
	stored := func(wanted string) {
		t.Helper()
		force, loose, laid := b.Past().Stored()
		want(t, "Stored", fmt.Sprint(force, loose, laid), wanted)
	}
	stored("2 3 0")
	play(t, b, "0 prune 1073741824 => 0 0 0")
	stored("2 0 3")
	play(t, b, "0 update t set v = 4 where k = 2 => 0 1 15")
	stored("2 1 3")
	play(t, b, "1 begin => 0 0 15", "1 prune 0 => 7 0 0")
	stored("2 1 3")
	play(t, b, "tick 2", "0 prune 0 => 0 2 13")
	stored("2 0 2")
	want(t, "Parts", len(b.Past().Parts()), 2)
}

func TestP23_2Effect(t *testing.T) {
	b := base.New()
	step := func(id int, text, wanted string) {
		t.Helper()
		if r := b.Do(id, text); (r.Errno != api.OK) && wanted != noEffect {
			t.Fatalf("%s = %v", text, r)
		}
		for range 2 {
			wantEffect(t, b, wanted)
		}
	}
	table := `1 at 0 down to 0; table t [{k 1} {v 1}] "" 0`
	// Each of these follows one that has an effect, so that one that has none is seen.
	again := func() {
		t.Helper()
		b = base.New()
		step(0, "create table t (k int, v int)", table)
	}
	for _, text := range []string{"begin", "rollback", "commit", "create table t (a int)", "selec", "", "prune 0", "select * in t", "select * in x", "update t set v = 5", "delete t", "insert into t values (1) from 0 to 5"} {
		again()
		step(1, text, noEffect)
	}
	again()
	b.Do(9, "begin")
	wantEffect(t, b, noEffect)
	again()
	b.Exec(0, api.Stmt{})
	wantEffect(t, b, noEffect)
	for _, n := range []int{0, -1, 5, math.MaxInt} {
		again()
		b.Tick(n)
		wantEffect(t, b, noEffect)
	}
	// These ask, and do nothing.
	again()
	b.Explain(0, "select * in t")
	b.Explain(0, "begin")
	b.Whole()
	b.View(0)
	b.Catalog()
	b.Past()
	b.Clock()
	b.Open(0)
	b.Oldest()
	b.Fork()
	wantEffect(t, b, table)
	wantEffect(t, b.Fork(), table)
	// What is replayed is nobody's statement.
	want(t, "Replay", b.Replay(api.Effect{Kind: api.CommitIt, At: 3, Changes: []api.Change{change("t", nil, list(row(0, 5, 1, 1)))}}), api.OK)
	wantEffect(t, b, table)
	step(0, "insert into t values (2, 2) from 0 to 5", "2 at 4 down to 0; t gone  come 2,2:0-5")
	step(0, "begin", noEffect)
	step(0, "insert into t values (3, 2) from 0 to 5", noEffect)
	step(0, "commit", "2 at 5 down to 0; t gone  come 3,2:0-5")
	step(0, "update t set v = 7 from 2 to 3 where k < 3", "2 at 6 down to 0; t gone 1,1:0-5 2,2:0-5 come 1,1:0-2 1,1:3-5 1,7:2-3 2,2:0-2 2,2:3-5 2,7:2-3")
	step(0, "delete t where v = 7", "2 at 7 down to 0; t gone 1,7:2-3 2,7:2-3 come ")
	b.Tick(2)
	step(0, "prune 0", "3 at 0 down to 5")
}

func TestP23_2View(t *testing.T) {
	b := two(t)
	for _, id := range nobody() {
		view, e := b.View(id)
		want(t, fmt.Sprintf("View(%d)", id), fmt.Sprint(view == nil, e), fmt.Sprint(true, api.ErrRange))
	}
	play(t, b, "1 begin => 0 0 3", "1 delete u => 0 1 0", "2 insert into t values (3, 3) from 0 to 1 => 0 1 4")
	wantView(t, b, 1, "t 1,0:0-10 2,0:0-10; ")
	wantView(t, b, 0, "t 1,0:0-10 2,0:0-10 3,3:0-1; u 7,1:2-5; ")
	wantView(t, b, 2, "t 1,0:0-10 2,0:0-10 3,3:0-1; u 7,1:2-5; ")
	view, _ := b.View(0)
	if !view.Same(b.Past().Current()) {
		t.Error("View of one that is not open is not what is in force")
	}
	play(t, b, "1 rollback => 0 0 0")
	wantView(t, b, 1, "t 1,0:0-10 2,0:0-10 3,3:0-1; u 7,1:2-5; ")
}

func TestP23_2TickAndClock(t *testing.T) {
	b := two(t)
	for _, x := range [][2]int{{0, 0}, {-5, 0}, {math.MinInt, 0}, {1, 1}, {9, 10}, {clock - 11, clock - 1}, {2, clock}, {math.MaxInt, clock}} {
		b.Tick(x[0])
		want(t, fmt.Sprintf("Clock behind Tick(%d)", x[0]), b.Clock(), x[1])
	}
	wantView(t, b, 0, "t 1,0:0-10 2,0:0-10; u 7,1:2-5; ")
}

func TestP23_2OpenAndOldest(t *testing.T) {
	b := two(t)
	oldest := func(at int, some bool, open ...int) {
		t.Helper()
		got, ok := b.Oldest()
		want(t, "Oldest", fmt.Sprint(got, ok), fmt.Sprint(at, some))
		for _, id := range append(nobody(), 0, 1, 2, 3) {
			want(t, fmt.Sprintf("Open(%d)", id), b.Open(id), slices.Contains(open, id))
		}
	}
	oldest(0, false)
	play(t, b, "2 begin => 0 0 3", "tick 5", "1 begin => 0 0 5")
	oldest(3, true, 1, 2)
	play(t, b, "2 commit => 0 0 0")
	oldest(5, true, 1)
	play(t, b, "1 rollback => 0 0 0")
	oldest(0, false)
}

func TestP23_2Whole(t *testing.T) {
	b := history(t)
	wanted := `down to 0; table t [{k 1} {v 1}] "" 0; t 1,0:0-10@1-12; t 2,0:0-10@2-1099511627776; t 1,1:0-10@12-13; t 1,2:0-10@13-14; t 1,3:0-10@14-1099511627776`
	want(t, "Whole", toldEffect(b.Whole()), "4 at 14 "+wanted)
	// At is the manager's highest instant, not the last commit's, nor the clock's.
	play(t, b, "tick 4", "0 begin => 0 0 15", "tick 1", "0 rollback => 0 0 0")
	want(t, "Whole", toldEffect(b.Whole()), "4 at 15 "+wanted)
	play(t, b, "0 prune 3 => 0 2 13")
	want(t, "Whole", toldEffect(b.Whole()), `4 at 15 down to 13; table t [{k 1} {v 1}] "" 0; t 2,0:0-10@2-1099511627776; t 1,2:0-10@13-14; t 1,3:0-10@14-1099511627776`)
	want(t, "Right", redo.Right(b.Whole()), true)
}

func TestP23_2ReplayOfWhole(t *testing.T) {
	b := history(t)
	play(t, b, "0 create table u (m int, n int) references t by n => 0 0 0", "0 create table w (a text) => 0 0 0", "0 insert into u values (1, 1) from 0 to 5 => 0 1 15", "tick 7", "0 prune 5 => 0 2 13", "1 begin => 0 0 18", "1 update t set v = 77 => 0 2 0")
	fresh := base.New()
	want(t, "Replay", fresh.Replay(b.Whole()), api.OK)
	want(t, "Whole", toldEffect(fresh.Whole()), toldEffect(b.Whole()))
	if !fresh.Catalog().Same(b.Catalog()) || !fresh.Past().Current().Same(b.Past().Current()) {
		t.Error("the tables, or what is in force, are not the same")
	}
	at, some := fresh.Oldest()
	want(t, "what there is", fmt.Sprint(fresh.Clock(), at, some, fresh.Past().Horizon(), fresh.Past().Last()), "18 0 false 13 18")
	wantEffect(t, fresh, noEffect)
	play(t, fresh, "0 select * in t as of 12 => 14 0 0", "0 select * in t as of 13 => 0 2 0 1,2:0-10 2,0:0-10", "1 begin => 0 0 18", "1 update t set v = 5 where k = 2 => 0 1 0", "1 commit => 0 0 19", "0 insert into u values (2, 9) from 0 to 5 => 12 0 0", "0 prune 0 => 0 1 18")
	// Of one that was new, too.
	fresh = base.New()
	want(t, "Replay", fresh.Replay(base.New().Whole()), api.OK)
	want(t, "Whole", toldEffect(fresh.Whole()), "4 at 0 down to 0")
	want(t, "Replay, again,", fresh.Replay(b.Whole()), api.OK)
	// Its clock and highest instant may be above.
	for _, lines := range [][]string{{"tick 50"}, {"tick 50", "0 begin => 0 0 50", "0 rollback => 0 0 0"}} {
		fresh = made(t, lines...)
		want(t, "Replay", fresh.Replay(b.Whole()), api.OK)
		want(t, "Clock", fresh.Clock(), 50)
		want(t, "Whole's At", fresh.Whole().At, 50)
		want(t, "Last", fresh.Past().Last(), 18)
	}
}

// refuses tells whether Replay answers the error, and changes nothing.
func refuses(t *testing.T, b *base.Base, e api.Effect, errno api.Errno) {
	t.Helper()
	ahead, effect := whole(b), toldEffect(b.Effect())
	want(t, fmt.Sprintf("Replay(%v)", e), b.Replay(e), errno)
	want(t, "what there is", whole(b), ahead)
	want(t, "Effect", toldEffect(b.Effect()), effect)
}

func table(name string, cols ...string) api.Table {
	t := api.Table{Name: name}
	for _, c := range cols {
		t.Cols = append(t.Cols, api.Col{Name: c, Kind: api.Int})
	}
	return t
}

// effects are one of each kind that a base with a table t, and 3 as its last instant, takes.
func effects() []api.Effect {
	return []api.Effect{
		{Kind: api.CreateIt, Tables: []api.Table{table("x", "a")}},
		{Kind: api.CommitIt, At: 9, Changes: []api.Change{change("t", nil, list(row(0, 5, 9, 9)))}},
		{Kind: api.PruneIt, Horizon: 1},
	}
}

func TestP23_2ReplayOrder(t *testing.T) {
	var none *base.Base
	wholeIt := api.Effect{Kind: api.WholeIt}
	for _, e := range append(effects(), wholeIt, api.Effect{}, api.Effect{Kind: 99}, api.Effect{Kind: api.CreateIt}, api.Effect{Kind: api.CommitIt}) {
		want(t, "Replay of nil", none.Replay(e), api.ErrNil)
		for id := range sessions {
			b := two(t)
			play(t, b, fmt.Sprint(id, " begin => 0 0 3"))
			refuses(t, b, e, api.ErrState)
		}
	}
	for _, e := range effects() {
		b := two(t)
		want(t, fmt.Sprintf("Replay(%v)", e), b.Replay(e), api.OK)
	}
	b := made(t, "0 begin => 0 0 0")
	refuses(t, b, wholeIt, api.ErrState)
	play(t, b, "0 rollback => 0 0 0")
	want(t, "Replay", b.Replay(wholeIt), api.OK)
	for _, kind := range []api.EffectKind{api.NoEffect, 5, 6, 255} {
		refuses(t, two(t), api.Effect{Kind: kind}, api.ErrForm)
		refuses(t, base.New(), api.Effect{Kind: kind, At: 5, Horizon: 5, Tables: []api.Table{table("x", "a")}}, api.ErrForm)
	}
}

func TestP23_2ReplayOfCreateIt(t *testing.T) {
	b := two(t)
	create := func(l ...api.Table) api.Effect { return api.Effect{Kind: api.CreateIt, Tables: l} }
	child := api.Table{Name: "x", Cols: []api.Col{{Name: "a", Kind: api.Int}, {Name: "b", Kind: api.Text}}, Parent: "t", Ref: 1}
	orphan := child
	orphan.Parent = "no"
	refuses(t, b, create(), api.ErrForm)
	refuses(t, b, create(table("x", "a"), table("y", "a")), api.ErrForm)
	refuses(t, b, create(table("x", "a"), table("x", "a")), api.ErrForm)
	refuses(t, b, create(table("t", "a"), table("y", "a")), api.ErrForm)
	refuses(t, b, create(table("x")), api.ErrForm)
	refuses(t, b, create(table("X", "a")), api.ErrForm)
	refuses(t, b, create(table("t", "a")), api.ErrExist)
	refuses(t, b, create(orphan), api.ErrNoent)
	refuses(t, b, create(child), api.ErrType)
	b.Tick(5)
	want(t, "Replay", b.Replay(create(table("x", "a"))), api.OK)
	want(t, "Names", b.Catalog().Names(), "[t u x]")
	// The manager is the same: its highest instant is below the clock.
	want(t, "what there is", fmt.Sprint(b.Clock(), b.Whole().At, b.Past().Last()), "5 3 3")
	refuses(t, b, create(table("y", "a")), api.ErrSpace)
	play(t, b, "0 insert into x values (4) from 0 to 5 => 0 1 6")
}

func TestP23_2ReplayOfCommitIt(t *testing.T) {
	b := two(t)
	commit := func(at int, l ...api.Change) api.Effect { return api.Effect{Kind: api.CommitIt, At: at, Changes: l} }
	old, fresh := row(0, 10, 1, 0), row(0, 5, 9, 9)
	for _, at := range []int{-1, 0, 2, 3, clock + 1, math.MaxInt, math.MinInt} {
		refuses(t, b, commit(at, change("t", nil, list(fresh))), api.ErrRange)
		refuses(t, b, commit(at, change("", nil, nil)), api.ErrRange)
	}
	refuses(t, b, commit(4, change("", nil, list(fresh))), api.ErrForm)
	refuses(t, b, commit(4, change("t", nil, nil), change("t", nil, nil)), api.ErrForm)
	refuses(t, b, commit(4, change("t", list(fresh), list(row(5, 5, 1)))), api.ErrForm)
	refuses(t, b, commit(4, change("t", list(fresh), list(old))), api.ErrNoent)
	refuses(t, b, commit(4, change("t", nil, list(old))), api.ErrExist)
	var many []api.Row
	for i := range maxVers - 2 {
		many = append(many, row(0, 1, i, 100))
	}
	refuses(t, b, commit(4, change("t", nil, many)), api.ErrSpace)
	want(t, "Replay", b.Fork().Replay(commit(4, change("t", nil, many[1:]))), api.OK)
	want(t, "Replay", b.Replay(commit(4, change("t", list(old), list(fresh)), change("u", list(row(2, 5, 7, 1)), nil))), api.OK)
	wantView(t, b, 0, "t 2,0:0-10 9,9:0-5; ")
	want(t, "Last", b.Past().Last(), 4)
	// One without changes moves the last instant, too.
	want(t, "Replay", b.Replay(commit(7)), api.OK)
	want(t, "Last", b.Past().Last(), 7)
}

// The manager is new, at the greatest one of its clock, its highest instant, and At: what was open, or written, is nobody's any more.
func TestP23_2ReplayMakesTheManagerNew(t *testing.T) {
	for _, x := range []struct {
		lines []string
		at    int
		want  int
	}{
		{nil, 5, 5},
		{[]string{"tick 9"}, 5, 9}, {[]string{"tick 9"}, 9, 9}, {[]string{"tick 9"}, 10, 10},
		{[]string{"tick 9", "0 begin => 0 0 9", "0 rollback => 0 0 0"}, 5, 9},
		{[]string{"0 update t set v = 8 => 0 2 4", "0 update t set v = 9 => 0 2 5"}, 6, 6},
		{[]string{"tick 8", "0 update t set v = 8 => 0 2 9", "0 update t set v = 9 => 0 2 10"}, 11, 11},
		{[]string{"tick 8", "0 begin => 0 0 8", "0 rollback => 0 0 0", "tick 3", "0 begin => 0 0 11", "0 rollback => 0 0 0", "tick 1"}, 4, 12},
		{nil, clock, clock},
	} {
		b := two(t)
		play(t, b, x.lines...)
		if e := b.Replay(api.Effect{Kind: api.CommitIt, At: x.at}); e != api.OK {
			t.Fatalf("Replay at %d behind %q = %d", x.at, x.lines, e)
		}
		want(t, fmt.Sprintf("Clock and highest behind %q, at %d,", x.lines, x.at), fmt.Sprint(b.Clock(), b.Whole().At, b.Past().Last()), fmt.Sprint(x.want, x.want, x.at))
		play(t, b, fmt.Sprintf("1 begin => 0 0 %d", x.want))
	}
	// Commits that were are ahead of who begins: the highest instant may be above the clock, and the clock is there then.
	b := two(t)
	want(t, "Clock", b.Clock(), 0)
	want(t, "Replay", b.Replay(api.Effect{Kind: api.CommitIt, At: 4}), api.OK)
	want(t, "Clock", b.Clock(), 4)
	play(t, b, "0 update t set v = 5 => 0 2 5")
}

func TestP23_2ReplayOfPruneIt(t *testing.T) {
	b := history(t)
	prune := func(h int) api.Effect { return api.Effect{Kind: api.PruneIt, Horizon: h} }
	refuses(t, b, prune(15), api.ErrRange)
	refuses(t, b, prune(math.MaxInt), api.ErrRange)
	for _, h := range []int{0, -1, math.MinInt} {
		refuses(t, b, prune(h), api.OK)
	}
	want(t, "Replay", b.Replay(prune(13)), api.OK)
	want(t, "what there is", fmt.Sprint(b.Past().Horizon(), len(b.Past().Versions()), b.Clock(), b.Whole().At), "13 3 11 14")
	force, loose, laid := b.Past().Stored()
	want(t, "Stored", fmt.Sprint(force, loose, laid), "2 1 0")
	refuses(t, b, prune(13), api.OK)
	refuses(t, b, prune(12), api.OK)
	refuses(t, b, prune(15), api.ErrRange)
	want(t, "Replay", b.Replay(prune(14)), api.OK)
	play(t, b, "0 select * in t as of 13 => 14 0 0")
}

func TestP23_2ReplayOfWholeItWithErrors(t *testing.T) {
	good := history(t).Whole()
	// One that is not new: with a table; without one, but with a last instant.
	refuses(t, two(t), good, api.ErrState)
	refuses(t, made(t, "0 create table o (a int) => 0 0 0"), good, api.ErrState)
	refuses(t, made(t, "0 create table o (a int) => 0 0 0"), api.Effect{Kind: api.WholeIt, At: -1}, api.ErrState)
	aged := base.New()
	want(t, "Replay", aged.Replay(api.Effect{Kind: api.CommitIt, At: 1}), api.OK)
	refuses(t, aged, good, api.ErrState)
	child := api.Table{Name: "x", Cols: []api.Col{{Name: "a", Kind: api.Int}, {Name: "b", Kind: api.Text}}, Parent: "t", Ref: 1}
	orphan := child
	orphan.Parent = "no"
	for _, x := range []struct {
		change func(e *api.Effect)
		want   api.Errno
	}{
		{func(e *api.Effect) { e.Tables = append(e.Tables, table("t", "a")) }, api.ErrExist},
		{func(e *api.Effect) { e.Tables = append(e.Tables, table("x")) }, api.ErrForm},
		{func(e *api.Effect) { e.Tables = append(e.Tables, child) }, api.ErrType},
		{func(e *api.Effect) { e.Tables = append(e.Tables, orphan) }, api.ErrNoent},
		{func(e *api.Effect) {
			e.Tables = append(e.Tables, table("x", "a"), table("y", "a"), table("z", "a"))
		}, api.ErrSpace},
		// schema's errors come first.
		{func(e *api.Effect) { e.Tables = append(e.Tables, table("t", "a")); e.At = -1 }, api.ErrExist},
		{func(e *api.Effect) { e.At = 13 }, api.ErrForm},
		{func(e *api.Effect) { e.At = -1 }, api.ErrRange},
		{func(e *api.Effect) { e.At = clock + 1 }, api.ErrRange},
		{func(e *api.Effect) { e.Horizon = -1 }, api.ErrRange},
		{func(e *api.Effect) { e.Horizon = 15 }, api.ErrRange},
		{func(e *api.Effect) { e.Horizon = 12 }, api.ErrForm},
		{func(e *api.Effect) { e.Versions = append(e.Versions, version("", row(0, 1, 1), 1, forever)) }, api.ErrForm},
		{func(e *api.Effect) { e.Versions = append(e.Versions, version("t", row(0, 10, 2, 0), 5, 6)) }, api.ErrExist},
		{func(e *api.Effect) {
			for i := range maxVers {
				e.Versions = append(e.Versions, version("t", row(0, 10, 20+i, 0), 5, 6))
			}
		}, api.ErrSpace},
	} {
		e := history(t).Whole()
		x.change(&e)
		for _, b := range []*base.Base{base.New(), made(t, "tick 7"), made(t, "tick 7", "0 begin => 0 0 7", "0 rollback => 0 0 0", "tick 2")} {
			refuses(t, b, e, x.want)
			want(t, "Replay behind an error", b.Replay(good), api.OK)
		}
	}
	// What is at the limits goes.
	e := history(t).Whole()
	e.At, e.Horizon = clock, 11
	b := base.New()
	want(t, "Replay", b.Replay(e), api.OK)
	want(t, "what there is", fmt.Sprint(b.Clock(), b.Past().Last(), b.Past().Horizon()), fmt.Sprint(clock, clock, 11))
}

// What belongs to another kind does not matter to Replay: its errors are those that are named.
func TestP23_2ReplayOfMore(t *testing.T) {
	b := two(t)
	e := api.Effect{Kind: api.PruneIt, Horizon: 2, At: 99, Tables: []api.Table{table("x", "a")}, Changes: []api.Change{change("t", nil, list(row(0, 1, 5, 5)))}}
	want(t, "Replay", b.Replay(e), api.OK)
	want(t, "what there is", fmt.Sprint(b.Past().Horizon(), b.Past().Last(), b.Clock(), b.Catalog().Names()), "2 3 0 [t u]")
}

func TestP23_2CatalogAndPastAreForks(t *testing.T) {
	b := history(t)
	ahead := whole(b)
	c := b.Catalog()
	c.Create(table("x", "a"))
	want(t, "Names", b.Catalog().Names(), "[t]")
	p := b.Past()
	p.Apply(99, p.Diff(rows.New()))
	p.Roll()
	p.Prune(99)
	view, _ := b.View(0)
	view.Put("t", nil)
	view.Put("x", list(row(0, 1, 1)))
	want(t, "what there is", whole(b), ahead)
	play(t, b, "1 begin => 0 0 14")
	ahead = whole(b)
	view, _ = b.View(1)
	view.Put("t", nil)
	want(t, "what there is", whole(b), ahead)
	// And what becomes of the base changes nothing of these.
	c, p = b.Catalog(), b.Past()
	view, _ = b.View(1)
	play(t, b, "1 update t set v = 8 => 0 2 0", "1 commit => 0 0 15", "0 create table x (a int) => 0 0 0", "tick 99", "0 prune 0 => 0 5 15")
	want(t, "what was told", fmt.Sprint(c.Names(), p.Last(), p.Horizon(), len(p.Versions()), " ", toldState(view)), "[t] 14 0 5 t 1,3:0-10 2,0:0-10; ")
}

func TestP23_8Explain(t *testing.T) {
	b := made(t, "0 create table t (k int, v int) => 0 0 0", "0 create table u (m int, n int) references t by n => 0 0 0", "0 create table w (a text, b text) => 0 0 0")
	for _, x := range [][2]string{
		{"select * in t", "t scan"},
		{"select v in t where k = 1 order v", "t key 1"},
		{"select * in t where k = -7", "t key -7"},
		{"select * in t where (v = 3 and k = 1)", "t key 1"},
		{"select * in t where k < 1", "t scan"},
		{"select * in t where v = 1", "t scan"},
		{"select * in t where (k = 1 or v = 1)", "t scan"},
		{"select * in t as of 77 where k = 1", "t key 1"},
		{"select * in t from 1 to 2 where k = 1", "t key 1"},
		{"select * in t between 1 and 2", "t scan"},
		{"select * in w where a = 'it''s'", "w key 'it''s'"},
		{"select * in w where b = 'x'", "w scan"},
		{"select * in t join u on k = n", "t scan, u scan"},
		{"select * in t join u on k = n where k = 1", "t key 1, u scan"},
		{"select * in t join u on k = n where m = 1", "t scan, u key 1"},
		{"select * in t join u on k = n where (m = 2 and k = 1)", "t key 1, u key 2"},
		{"select * in u join t on n = k where (m = 2 and v = 1)", "u key 2, t scan"},
		{"select * in u join w on m = m", ""},
	} {
		for id := range sessions {
			text, e := b.Explain(id, x[0])
			if x[1] == "" {
				want(t, x[0], fmt.Sprint(text, e), fmt.Sprint("", api.ErrNoent))
			} else {
				want(t, x[0], fmt.Sprint(text, e), fmt.Sprint(x[1], api.OK))
			}
		}
	}
	// It is asked of the tables alone: in a session, and of what is pruned, it is the same.
	play(t, b, "0 insert into t values (1, 0) from 0 to 1 => 0 1 1", "tick 9", "0 prune 0 => 0 0 1", "2 begin => 0 0 9", "2 insert into t values (2, 0) from 0 to 1 => 0 1 0")
	ahead := whole(b)
	for _, id := range []int{0, 2} {
		text, e := b.Explain(id, "select * in t as of 0 where k = 1")
		want(t, "Explain", fmt.Sprint(text, e), fmt.Sprint("t key 1", api.OK))
	}
	want(t, "what there is", whole(b), ahead)
}

func TestP23_8ExplainOrder(t *testing.T) {
	var none *base.Base
	b := two(t)
	explain := func(b *base.Base, id int, text string, errno api.Errno) {
		t.Helper()
		told, e := b.Explain(id, text)
		want(t, fmt.Sprintf("Explain(%d, %q)", id, text), fmt.Sprint(told, e), fmt.Sprint("", errno))
	}
	for _, text := range []string{"", "selec", "begin", "select * in x", "select * in t", "create table t (a int)"} {
		for _, id := range append(nobody(), 0) {
			explain(none, id, text, api.ErrNil)
		}
		for _, id := range nobody() {
			explain(b, id, text, api.ErrRange)
		}
	}
	explain(b, 0, "", api.ErrSyntax)
	explain(b, 0, "select * in t where not not not not not not k = 1", api.ErrDeep)
	explain(b, 0, "select * in t where v = '123456789", api.ErrSyntax)
	explain(b, 0, "select * in x", api.ErrNoent)
	explain(b, 0, "select * in t where k = 'x'", api.ErrType)
	explain(b, 0, "select * in t as of -1", api.ErrRange)
	explain(b, 0, "delete x", api.ErrNoent)
	explain(b, 0, "create table t (a int)", api.ErrExist)
	explain(b, 0, "prune -1", api.ErrRange)
	for _, text := range []string{"begin", "commit", "rollback", "prune 0", "delete t where k = 1", "update t set v = 1 where k = 1", "insert into t values (1, 1) from 0 to 5", "create table x (a int)"} {
		ahead := whole(b)
		explain(b, 0, text, api.ErrForm)
		want(t, "what there is", whole(b), ahead)
	}
}

// anyTexts are statements that are right, and texts that have each of the errors that a text may have.
func anyTexts() []string {
	return []string{
		"begin", "commit", "select * in t", "delete t where k = 1", "prune 0", "create table x (a int)",
		"", " ", "'", "\xff", "\x00", "select", "selec", "begin begin", "delete t where", "prune 99999999999999999999", "insert into t values (1) from 0 to 5 6",
		"select * in t where not not not not not not k = 1", strings.Repeat("x", api.MaxText+1), strings.Repeat("x ", api.MaxTokens+1),
	}
}

func TestP1Nil(t *testing.T) {
	var b *base.Base
	b.Tick(5)
	b.Tick(-5)
	for _, id := range append(nobody(), 0, 3) {
		for _, text := range anyTexts() {
			want(t, fmt.Sprintf("Do(%d, %q)", id, text), fmt.Sprintf("%+v", b.Do(id, text)), fmt.Sprintf("%+v", api.Reply{Errno: api.ErrNil}))
			told, e := b.Explain(id, text)
			want(t, fmt.Sprintf("Explain(%d, %q)", id, text), fmt.Sprint(told, e), fmt.Sprint("", api.ErrNil))
		}
		want(t, "Exec", toldReply(b.Exec(id, stmt(t, "begin"))), "1 0 0")
		want(t, "Exec", toldReply(b.Exec(id, api.Stmt{})), "1 0 0")
		view, e := b.View(id)
		want(t, "View", fmt.Sprint(view == nil, e), fmt.Sprint(true, api.ErrNil))
		want(t, "Open", b.Open(id), false)
	}
	want(t, "Replay", b.Replay(api.Effect{Kind: api.WholeIt}), api.ErrNil)
	want(t, "Effect", toldEffect(b.Effect()), noEffect)
	want(t, "Whole", toldEffect(b.Whole()), noEffect)
	at, some := b.Oldest()
	if b.Catalog() != nil || b.Past() != nil || b.Fork() != nil || b.Clock() != 0 || at != 0 || some {
		t.Error("nil has something")
	}
}

// Rows that a Replay brought may be such as no statement makes: whatever comes of them, calls end, and none panics.
func TestP1BehindAnyReplay(t *testing.T) {
	odd := []api.Row{row(0, 5, 1, 1, 1, 1), row(0, 5, "x"), row(3, 9, 1), row(0, 4, 1, 0), row(2, 9, 1, 0), row(2, 9, 1, 5), row(0, 9, 2, "y")}
	for _, names := range [][]string{{"t"}, {"u"}, {"x"}, {"t", "u"}, {"\x00"}} {
		b := two(t)
		var changes []api.Change
		for _, name := range names {
			changes = append(changes, change(name, nil, odd[:len(odd)-len(name)]))
		}
		if e := b.Replay(api.Effect{Kind: api.CommitIt, At: 4, Changes: changes}); e == api.ErrExist {
			changes[0].Come = odd[:3]
			b.Replay(api.Effect{Kind: api.CommitIt, At: 4, Changes: changes})
		}
		for _, lines := range [][]string{{"begin", "update t set v = 5", "commit"}, {"delete t"}, {"delete u"}, {"insert into t values (1, 0) from 4 to 5"}, {"insert into t values (8, 0) from 4 to 5"}, {"begin", "delete t", "insert into t values (1, 1) from 0 to 5", "select * in t join u on k = n", "commit"}, {"create table x (a int)", "select * in x", "insert into x values (7) from 0 to 1", "delete x"}, {"select * in t", "select * in t where k = 1", "select * in t from 0 to 9"}, {"prune 0"}} {
			fork := b.Fork()
			for _, line := range lines {
				fork.Do(1, line)
				whole(fork)
			}
		}
		fresh := base.New()
		want(t, "Replay", fresh.Replay(b.Whole()), api.OK)
	}
}

// What a session did not write is taken over as it is in force, though a Replay may have cut it as no statement does.
func TestP23_1CommitOfRowsThatAreCut(t *testing.T) {
	b := made(t, "0 create table t (k int, v int) => 0 0 0")
	cut := list(row(0, 3, 1, 0), row(3, 6, 1, 0), row(0, 3, 2, 0), row(3, 6, 2, 0))
	want(t, "Replay", b.Replay(api.Effect{Kind: api.CommitIt, At: 1, Changes: []api.Change{change("t", nil, cut)}}), api.OK)
	play(t, b, "0 update t set v = 0 where k = 9 => 0 0 0", "0 insert into t values (3, 3) from 0 to 1 => 0 1 2")
	wantEffect(t, b, "2 at 2 down to 0; t gone  come 3,3:0-1")
	play(t, b, "0 update t set v = 0 where k = 1 => 0 2 3")
	wantEffect(t, b, "2 at 3 down to 0; t gone 1,0:0-3 1,0:3-6 come 1,0:0-6")
}

const scribbled = "scribble"

func scribbleVals(l []api.Value) {
	for i := range l[:cap(l)] {
		l[:cap(l)][i] = str(scribbled)
	}
}

func scribbleRows(l []api.Row) {
	for i, r := range l[:cap(l)] {
		scribbleVals(r.Vals)
		l[:cap(l)][i] = row(-77, 77, scribbled)
	}
}

func scribbleEffect(e api.Effect) {
	for i, x := range e.Tables[:cap(e.Tables)] {
		for j := range x.Cols[:cap(x.Cols)] {
			x.Cols[:cap(x.Cols)][j] = api.Col{Name: scribbled}
		}
		e.Tables[:cap(e.Tables)][i] = api.Table{Name: scribbled}
	}
	for i, c := range e.Changes[:cap(e.Changes)] {
		scribbleRows(c.Gone)
		scribbleRows(c.Come)
		e.Changes[:cap(e.Changes)][i] = api.Change{Table: scribbled}
	}
	for i, v := range e.Versions[:cap(e.Versions)] {
		scribbleVals(v.Row.Vals)
		e.Versions[:cap(e.Versions)][i] = api.Version{Table: scribbled}
	}
}

func scribbleOuts(l []api.Out) {
	for i, o := range l[:cap(l)] {
		scribbleVals(o.Vals)
		l[:cap(l)][i] = api.Out{}
	}
}

func TestP3AnswersAreTheCallers(t *testing.T) {
	b := history(t)
	play(t, b, "1 begin => 0 0 14", "1 insert into t values (5, 5) from 0 to 5 => 0 1 0")
	for _, text := range []string{"select * in t", "select * in t as of 12", "select v, k in t between 0 and 99 order v"} {
		for _, id := range []int{0, 1} {
			first, second := b.Do(id, text), b.Do(id, text)
			ahead, told := whole(b), toldReply(second)
			scribbleOuts(first.Rows)
			want(t, "what there is", whole(b), ahead)
			want(t, "what was told", toldReply(second), told)
			want(t, text, toldReply(b.Do(id, text)), told)
		}
	}
	for _, text := range []string{"update t set v = 7", "delete t from 2 to 4", "rollback", "create table x (a int, b text)", "prune 0"} {
		b.Do(1, text)
		if text == "delete t from 2 to 4" {
			b.Do(1, "commit")
		}
		first, second, all := b.Effect(), b.Effect(), b.Whole()
		fork := b.Fork()
		ahead, told := whole(b), toldEffect(second)
		scribbleEffect(first)
		scribbleEffect(all)
		scribbleEffect(fork.Effect())
		want(t, "what there is", whole(b), ahead)
		want(t, "what was told", toldEffect(second), told)
		want(t, "Effect", toldEffect(b.Effect()), told)
		want(t, "Effect of the fork", toldEffect(fork.Effect()), told)
	}
}

// spare is a statement whose lists have something behind their ends.
func spare(s api.Stmt) api.Stmt {
	vals := append(slices.Clone(s.Vals), str("spare"))
	s.Vals = vals[:len(vals)-1]
	sets := append(slices.Clone(s.Sets), api.Set{Col: "spare"})
	s.Sets = sets[:len(sets)-1]
	conds := append(slices.Clone(s.Where), api.Cond{Col: "spare"})
	s.Where = conds[:len(conds)-1]
	cols := append(slices.Clone(s.Table.Cols), api.Col{Name: "spare"})
	s.Table.Cols = cols[:len(cols)-1]
	names := append(slices.Clone(s.Cols), "spare")
	s.Cols = names[:len(names)-1]
	return s
}

func toldStmt(s api.Stmt) string {
	return fmt.Sprint(s, s.Vals[:cap(s.Vals)], s.Sets[:cap(s.Sets)], s.Where[:cap(s.Where)], s.Table.Cols[:cap(s.Table.Cols)], s.Cols[:cap(s.Cols)])
}

func scribbleStmt(s api.Stmt) {
	scribbleVals(s.Vals)
	for i := range s.Sets[:cap(s.Sets)] {
		s.Sets[:cap(s.Sets)][i] = api.Set{Col: scribbled, Val: str(scribbled)}
	}
	for i := range s.Where[:cap(s.Where)] {
		s.Where[:cap(s.Where)][i] = api.Cond{Col: scribbled}
	}
	for i := range s.Table.Cols[:cap(s.Table.Cols)] {
		s.Table.Cols[:cap(s.Table.Cols)][i] = api.Col{Name: scribbled}
	}
	for i := range s.Cols[:cap(s.Cols)] {
		s.Cols[:cap(s.Cols)][i] = scribbled
	}
}

func TestP3StatementsStayAndAreNotKept(t *testing.T) {
	texts := []string{"create table t (k int, v text)", "insert into t values (1, 'a') from 0 to 5", "insert into t values (2, 'b') from 0 to 5", "update t set v = 'c' from 2 to 3 where k = 1", "select v, k in t where k = 1", "begin", "insert into t values (3, 'd') from 0 to 5", "update t set v = 'e' where k < 3", "delete t from 4 to 5 where not k = 2", "select * in t order v", "commit", "delete t where v = 'e'", "prune 0"}
	b, other := base.New(), base.New()
	for _, text := range texts {
		s := spare(stmt(t, text))
		ahead := toldStmt(s)
		got := toldReply(b.Exec(2, s))
		want(t, "the statement behind "+text, toldStmt(s), ahead)
		scribbleStmt(s)
		want(t, text, got, toldReply(other.Do(2, text)))
		want(t, "what there is", whole(b), whole(other))
		want(t, "Effect", toldEffect(b.Effect()), toldEffect(other.Effect()))
	}
}

func TestP3EffectsStayAndAreNotKept(t *testing.T) {
	b, other := base.New(), base.New()
	room := func(l []api.Row) []api.Row {
		var own []api.Row
		for _, r := range l {
			vals := append(slices.Clone(r.Vals), str("spare"))
			own = append(own, api.Row{Vals: vals[:len(r.Vals)], Span: r.Span})
		}
		return append(own, row(1, 2, "spare"))[:len(l)]
	}
	for i := range 4 {
		build := func() api.Effect {
			return []api.Effect{
				{Kind: api.WholeIt, At: 3, Horizon: 1, Tables: []api.Table{table("t", "k", "v")}, Versions: []api.Version{version("t", room(list(row(0, 5, 1, 1)))[0], 2, 3), version("t", row(0, 5, 1, 2), 3, forever)}},
				{Kind: api.CreateIt, Tables: append(make([]api.Table, 0, 2), table("x", "a"))},
				{Kind: api.CommitIt, At: 4, Changes: []api.Change{change("t", room(list(row(0, 5, 1, 2))), room(list(row(0, 6, 1, 3), row(0, 5, 2, 2))))}},
				{Kind: api.PruneIt, Horizon: 3},
			}[i]
		}
		e := build()
		told := fmt.Sprintf("%v %v", e, toldEffect(e))
		want(t, "Replay", b.Replay(e), api.OK)
		want(t, "the effect", fmt.Sprintf("%v %v", e, toldEffect(e)), told)
		for _, c := range e.Changes {
			want(t, "spare room", fmt.Sprint(c.Come[:cap(c.Come)][len(c.Come)], c.Come[0].Vals[:3][2]), fmt.Sprint(row(1, 2, "spare"), str("spare")))
		}
		scribbleEffect(e)
		want(t, "Replay", other.Replay(build()), api.OK)
		want(t, "what there is", whole(b), whole(other))
	}
}

func TestP4Forks(t *testing.T) {
	start := func() *base.Base {
		b := two(t)
		play(t, b, "1 begin => 0 0 3", "1 update t set v = 5 where k = 1 => 0 1 0", "tick 6", "2 begin => 0 0 6", "0 update t set v = 4 from 0 to 3 where k = 2 => 0 1 7")
		return b
	}
	effect := toldEffect(start().Effect())
	for name, do := range map[string]func(b *base.Base){
		"Tick":            func(b *base.Base) { b.Tick(5) },
		"begin":           func(b *base.Base) { b.Do(3, "begin") },
		"rollback":        func(b *base.Base) { b.Do(1, "rollback") },
		"commit":          func(b *base.Base) { b.Do(1, "commit") },
		"a change":        func(b *base.Base) { b.Do(1, "update t set v = 6") },
		"one of another":  func(b *base.Base) { b.Do(2, "insert into t values (9, 9) from 0 to 5") },
		"one outside":     func(b *base.Base) { b.Do(0, "insert into t values (9, 9) from 0 to 5") },
		"prune":           func(b *base.Base) { b.Do(0, "prune 0") },
		"all of it":       func(b *base.Base) { b.Do(1, "commit"); b.Do(2, "commit"); b.Do(0, "create table x (a int)") },
		"Replay":          func(b *base.Base) { b.Do(1, "rollback"); b.Do(2, "rollback"); b.Replay(effects()[1]) },
		"Replay, a table": func(b *base.Base) { b.Do(1, "rollback"); b.Do(2, "rollback"); b.Replay(effects()[0]) },
	} {
		b := start()
		ahead := whole(b)
		fork := b.Fork()
		want(t, "a Fork", whole(fork), ahead)
		wantEffect(t, fork, effect)
		do(fork)
		want(t, "what was forked, behind "+name+" of the Fork,", whole(b), ahead)
		wantEffect(t, b, effect)
		if whole(fork) == ahead {
			t.Errorf("%s changes nothing", name)
		}
		fork = b.Fork()
		do(b)
		want(t, "the Fork, behind "+name+",", whole(fork), ahead)
		wantEffect(t, fork, effect)
	}
	// A fork's session clashes with what was committed ahead of it.
	b := start()
	play(t, b, "0 update t set v = 8 where k = 1 => 0 1 8")
	play(t, b.Fork().Fork(), "1 commit => 13 0 0", "2 commit => 0 0 0")
	play(t, b, "1 commit => 13 0 0")
}

func TestP6NothingIsKept(t *testing.T) {
	wanted := whole(two(t))
	for range 3 {
		want(t, "what there is", whole(two(t)), wanted)
		want(t, "what there is in a new one", whole(base.New()), whole(base.New()))
	}
	c, b := two(t), base.New()
	play(t, c, "0 delete u => 0 1 4")
	want(t, "what there is in a new one", whole(b), whole(base.New()))
}

// holds is P23.5 and P23.7.
func holds(t *testing.T, b *base.Base) {
	t.Helper()
	if name, e := keep.State(b.Catalog(), b.Past().Current()); e != api.OK {
		t.Fatalf("what is in force does not hold: %s, %d; %s", name, e, whole(b))
	}
	if oldest, some := b.Oldest(); some && b.Past().Horizon() > oldest {
		t.Fatalf("the horizon is %d, the oldest one is open since %d", b.Past().Horizon(), oldest)
	}
}
