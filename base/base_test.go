package base_test

import (
	"fmt"
	"math"
	"strconv"
	"strings"
	"testing"

	"regesta/api"
	"regesta/base"
	"regesta/parse"
	"regesta/past"
	"regesta/rows"
	"regesta/schema"
	"regesta/value"
)

// The calls are those of the chapter.
var (
	_ func() *base.Base                                        = base.New
	_ func(*base.Base, int, string) api.Reply                  = (*base.Base).Do
	_ func(*base.Base, int, api.Stmt) api.Reply                = (*base.Base).Exec
	_ func(*base.Base, int)                                    = (*base.Base).Tick
	_ func(*base.Base) api.Effect                              = (*base.Base).Effect
	_ func(*base.Base, api.Effect) api.Errno                   = (*base.Base).Replay
	_ func(*base.Base) api.Effect                              = (*base.Base).Whole
	_ func(*base.Base) *schema.Catalog                         = (*base.Base).Catalog
	_ func(*base.Base) *past.Past                              = (*base.Base).Past
	_ func(*base.Base, int) (*rows.State, api.Errno)           = (*base.Base).View
	_ func(*base.Base) int                                     = (*base.Base).Clock
	_ func(*base.Base, int) bool                               = (*base.Base).Open
	_ func(*base.Base) (int, bool)                             = (*base.Base).Oldest
	_ func(*base.Base) *base.Base                              = (*base.Base).Fork
	_ func(*base.Base, int, string) (text string, e api.Errno) = (*base.Base).Explain
)

const (
	clock    = 1 << 30
	forever  = 1 << 40
	sessions = 4
	maxRows  = 16
	maxVers  = 60
)

// nobody are numbers that no session has.
func nobody() []int { return []int{-1, -7, math.MinInt, sessions, sessions + 1, math.MaxInt} }

func num(n int64) api.Value  { return api.Value{Kind: api.Int, Num: n} }
func str(s string) api.Value { return api.Value{Kind: api.Text, Str: s} }

func row(from, to int, vals ...any) api.Row {
	r := api.Row{Span: api.Span{From: from, To: to}}
	for _, v := range vals {
		switch x := v.(type) {
		case int:
			r.Vals = append(r.Vals, num(int64(x)))
		case string:
			r.Vals = append(r.Vals, str(x))
		}
	}
	return r
}

func list(l ...api.Row) []api.Row { return l }

func version(table string, r api.Row, from, to int) api.Version {
	return api.Version{Table: table, Row: r, Sys: api.Span{From: from, To: to}}
}

func change(table string, gone, come []api.Row) api.Change {
	return api.Change{Table: table, Gone: gone, Come: come}
}

func stmt(t *testing.T, text string) api.Stmt {
	t.Helper()
	s, place, e := parse.Stmt(text)
	if e != api.OK {
		t.Fatalf("Stmt(%q) = %d, at %d", text, e, place)
	}
	return s
}

func want(t *testing.T, call string, got, want any) {
	t.Helper()
	if a, b := fmt.Sprint(got), fmt.Sprint(want); a != b {
		t.Fatalf("%s = %s, not %s", call, a, b)
	}
}

func toldVals(l []api.Value) string {
	var texts []string
	for _, v := range l {
		text, e := value.Print(v)
		if e != api.OK {
			text = fmt.Sprintf("?%v", v)
		}
		texts = append(texts, text)
	}
	return strings.Join(texts, ",")
}

func toldRow(r api.Row) string {
	return fmt.Sprintf("%s:%d-%d", toldVals(r.Vals), r.Span.From, r.Span.To)
}

func toldRows(l []api.Row) string {
	var texts []string
	for _, r := range l {
		texts = append(texts, toldRow(r))
	}
	return strings.Join(texts, " ")
}

// toldReply is the error, the count, the instant, and the rows: 0 1 0 1,5:0-10@3-7.
func toldReply(r api.Reply) string {
	text := fmt.Sprint(int(r.Errno), " ", r.Count, " ", r.At)
	for _, o := range r.Rows {
		text += " " + toldRow(api.Row{Vals: o.Vals, Span: o.Span})
		if o.Sys != (api.Span{}) {
			text += fmt.Sprintf("@%d-%d", o.Sys.From, o.Sys.To)
		}
	}
	return text
}

// toldEffect has all fields, each with its own mark.
func toldEffect(e api.Effect) string {
	text := fmt.Sprintf("%d at %d down to %d", e.Kind, e.At, e.Horizon)
	for _, t := range e.Tables {
		text += fmt.Sprintf("; table %s %v %q %d", t.Name, t.Cols, t.Parent, t.Ref)
	}
	for _, c := range e.Changes {
		text += fmt.Sprintf("; %s gone %s come %s", c.Table, toldRows(c.Gone), toldRows(c.Come))
	}
	for _, v := range e.Versions {
		text += fmt.Sprintf("; %s %s@%d-%d", v.Table, toldRow(v.Row), v.Sys.From, v.Sys.To)
	}
	return text
}

func toldState(s *rows.State) string {
	text := ""
	for _, name := range s.Names() {
		if l := s.Get(name); len(l) > 0 {
			text += fmt.Sprintf("%s %s; ", name, toldRows(l))
		}
	}
	return text
}

// whole is all that is told but the last effect; of each open session also what its commit would answer, which tells what the manager knows.
func whole(b *base.Base) string {
	at, some := b.Oldest()
	force, loose, laid := b.Past().Stored()
	text := fmt.Sprintln(b.Clock(), at, some, b.Past().Last(), force, loose, laid, b.Past().Parts())
	for id := range sessions {
		view, e := b.View(id)
		text += fmt.Sprintln(id, b.Open(id), e, toldState(view))
		if b.Open(id) {
			text += toldReply(b.Fork().Do(id, "commit"))
		}
	}
	return text + toldEffect(b.Whole())
}

const noEffect = "0 at 0 down to 0"

// play does lines: tick and a number, or a session, its statement, and what it must answer. What is answered with an error had no effect, and changes nothing, but that a commit's session is ended.
func play(t *testing.T, b *base.Base, lines ...string) {
	t.Helper()
	for _, line := range lines {
		if ticks, ok := strings.CutPrefix(line, "tick "); ok {
			n, _ := strconv.Atoi(ticks)
			b.Tick(n)
			want(t, "Effect behind Tick", toldEffect(b.Effect()), noEffect)
			continue
		}
		asked, wanted, _ := strings.Cut(line, " => ")
		who, text, _ := strings.Cut(asked, " ")
		id, _ := strconv.Atoi(who)
		ahead, open := whole(b), b.Open(id)
		r := b.Do(id, text)
		want(t, asked, toldReply(r), wanted)
		if r.Errno == api.OK {
			continue
		}
		want(t, "Effect behind "+line, toldEffect(b.Effect()), noEffect)
		if text != "commit" || !open {
			want(t, "what there is behind "+line, whole(b), ahead)
		}
	}
}

func made(t *testing.T, lines ...string) *base.Base {
	t.Helper()
	b := base.New()
	play(t, b, lines...)
	return b
}

// two has two tables, the second of which refers to the first one, and at the instants 1 to 3 rows in both.
func two(t *testing.T) *base.Base {
	t.Helper()
	return made(t, "0 create table t (k int, v int) => 0 0 0",
		"0 create table u (m int, n int) references t by n => 0 0 0",
		"0 insert into t values (1, 0) from 0 to 10 => 0 1 1",
		"0 insert into t values (2, 0) from 0 to 10 => 0 1 2",
		"0 insert into u values (7, 1) from 2 to 5 => 0 1 3")
}

func wantView(t *testing.T, b *base.Base, id int, wanted string) {
	t.Helper()
	view, e := b.View(id)
	want(t, fmt.Sprintf("View(%d)", id), fmt.Sprint(e, " ", toldState(view)), "0 "+wanted)
}

func wantEffect(t *testing.T, b *base.Base, wanted string) {
	t.Helper()
	want(t, "Effect", toldEffect(b.Effect()), wanted)
}

func TestNew(t *testing.T) {
	b := base.New()
	at, some := b.Oldest()
	want(t, "New", fmt.Sprint(b.Clock(), at, some, len(b.Catalog().Names()), b.Past().Last(), b.Past().Horizon(), len(b.Past().Versions())), "0 0 false 0 0 0 0")
	wantEffect(t, b, noEffect)
	want(t, "Whole", toldEffect(b.Whole()), "4 at 0 down to 0")
	for id := range sessions {
		want(t, "Open", b.Open(id), false)
		wantView(t, b, id, "")
	}
	if base.New() == base.New() {
		t.Error("two are one")
	}
}

func TestExamplesOfTheWhole(t *testing.T) {
	b := made(t, "0 create table t (k int, v int) => 0 0 0",
		"0 insert into t values (1, 0) from 0 to 10 => 0 1 1",
		"0 update t set v = 5 from 2 to 4 => 0 1 2",
		"0 select * in t as of 1 => 0 1 0 1,0:0-10",
		"0 select * in t as of 2 => 0 3 0 1,0:0-2 1,0:4-10 1,5:2-4",
		"0 begin => 0 0 2", "1 begin => 0 0 2",
		"0 update t set v = 6 => 0 3 0", "1 update t set v = 7 where k = 1 => 0 3 0",
		"0 commit => 0 0 3", "1 commit => 13 0 0")
	// At the clock 0 nothing is forgotten; once it has gone on, all is but what is in force.
	play(t, b, "0 prune 0 => 0 0 0", "tick 3", "0 prune 0 => 0 4 3", "0 select * in t as of 1 => 14 0 0")
}

func TestExampleOfTheChapter(t *testing.T) {
	made(t, "0 create table t (a int) => 0 0 0", "0 insert into t values (1) from 0 to 5 => 0 1 1", "0 select * in t => 0 1 0 1:0-5")
}

// The reply has the error, and nothing else: not its place.
func TestP23_1DoOfNoStatement(t *testing.T) {
	for _, text := range []string{"", " ", "selec", "select", "select * in t where", "insert into t values (1, 0 from 0 to 5", "begin begin", "create table t (a int) references t by a", "prune -", "prune x", "select * in t where a = 'x", "delete t where not not not not not not a = 1", "\x00", "\xff", "begin\n\x01", strings.Repeat("begin ", 60), strings.Repeat("b", 401), strings.Repeat("( ", 150), "insert into t values ('123456789') from 0 to 5", "prune 99999999999999999999"} {
		_, _, errno := parse.Stmt(text)
		if errno == api.OK {
			t.Fatalf("%q is a statement", text)
		}
		b := two(t)
		play(t, b, "1 begin => 0 0 3")
		for _, id := range append(nobody(), 0, 1, 3) {
			ahead := whole(b)
			want(t, fmt.Sprintf("Do(%d, %q)", id, text), fmt.Sprintf("%+v", b.Do(id, text)), fmt.Sprintf("%+v", api.Reply{Errno: errno}))
			want(t, "what there is", whole(b), ahead)
			wantEffect(t, b, noEffect)
		}
	}
}

// A text is parsed ahead of all that Exec does; of nil it is not.
func TestP23_1DoOrder(t *testing.T) {
	var none *base.Base
	b := two(t)
	for _, x := range []struct {
		b    *base.Base
		id   int
		text string
		want api.Errno
	}{
		{none, -1, "selec", api.ErrNil}, {none, 0, "selec", api.ErrNil}, {b, -1, "selec", api.ErrSyntax},
		{none, -1, "select * in x", api.ErrNil}, {none, 0, "begin", api.ErrNil},
		{b, -1, "select * in x", api.ErrRange}, {b, sessions, "begin", api.ErrRange},
		{b, 0, "select * in x", api.ErrNoent}, {b, 0, "commit", api.ErrState},
	} {
		want(t, x.text, toldReply(x.b.Do(x.id, x.text)), fmt.Sprint(int(x.want), " 0 0"))
	}
}

func TestP23_1ExecOrder(t *testing.T) {
	unsound := []api.Stmt{{}, {Kind: 77}, {Kind: api.Begin, A: 1}, {Kind: api.Begin, Name: "t"}, {Kind: api.Select}, {Kind: api.Insert, Name: "t", Vals: []api.Value{num(1)}}, {Kind: api.Select, Name: "t", Time: 9}, {Kind: api.Prune, A: -(1 << 41)}, {Kind: api.Delete, Name: "t", Where: []api.Cond{{}}}, {Kind: api.Update, Name: "t", Sets: []api.Set{{Col: "v"}}}, {Kind: api.Delete, Name: "t", Where: []api.Cond{{Kind: api.Not, Kids: []int{0}}}}}
	var none *base.Base
	b := two(t)
	play(t, b, "2 begin => 0 0 3")
	refused := func(b *base.Base, id int, s api.Stmt, errno api.Errno) {
		t.Helper()
		ahead := ""
		if b != nil {
			ahead = whole(b)
		}
		want(t, fmt.Sprintf("Exec(%d, %v)", id, s), fmt.Sprintf("%+v", b.Exec(id, s)), fmt.Sprintf("%+v", api.Reply{Errno: errno}))
		if b != nil {
			want(t, "what there is", whole(b), ahead)
			wantEffect(t, b, noEffect)
		}
	}
	for _, s := range append(unsound, stmt(t, "begin"), stmt(t, "select * in x"), stmt(t, "select * in t")) {
		for _, id := range append(nobody(), 0, 2) {
			refused(none, id, s, api.ErrNil)
		}
		for _, id := range nobody() {
			refused(b, id, s, api.ErrRange)
		}
	}
	for id := range sessions {
		for _, s := range unsound {
			refused(b, id, s, api.ErrForm)
		}
		// What does not fit: check's errors come ahead of those of the session.
		refused(b, id, stmt(t, "select * in x"), api.ErrNoent)
		refused(b, id, stmt(t, "create table t (a int)"), api.ErrExist)
		refused(b, id, stmt(t, "create table o (a int, b text) references t by b"), api.ErrType)
		refused(b, id, stmt(t, "prune 1073741825"), api.ErrRange)
		refused(b, id, stmt(t, "prune -1"), api.ErrRange)
		refused(b, id, stmt(t, "insert into t values (1) from 0 to 5"), api.ErrType)
		refused(b, id, stmt(t, "insert into t values (1, 1) from 5 to 5"), api.ErrPeriod)
		refused(b, id, stmt(t, "update t set k = 1"), api.ErrState)
		refused(b, id, stmt(t, "delete t where k = 'x'"), api.ErrType)
		refused(b, id, stmt(t, "select * in t from 5 to 5"), api.ErrPeriod)
	}
	refused(b, 0, stmt(t, "create table o (a int)"), api.ErrState)
	refused(b, 2, stmt(t, "prune 1"), api.ErrState)
	refused(b, 2, stmt(t, "begin"), api.ErrState)
	refused(b, 0, stmt(t, "commit"), api.ErrState)
}

func TestP23_1Begin(t *testing.T) {
	b := two(t)
	play(t, b, "1 begin => 0 0 3", "1 begin => 7 0 0", "tick 9", "1 begin => 7 0 0", "0 begin => 0 0 9", "3 begin => 0 0 9", "2 begin => 0 0 9", "4 begin => 2 0 0")
	wantEffect(t, b, noEffect)
	for id := range sessions {
		want(t, "Open", b.Open(id), true)
		wantView(t, b, id, "t 1,0:0-10 2,0:0-10; u 7,1:2-5; ")
	}
	at, some := b.Oldest()
	want(t, "Oldest", fmt.Sprint(at, some), "3 true")
	// The highest instant is that of a begin, though nothing was committed there.
	want(t, "Whole's At", b.Whole().At, 9)
	want(t, "Last", b.Past().Last(), 3)
}

func TestP23_1Rollback(t *testing.T) {
	b := two(t)
	play(t, b, "0 rollback => 7 0 0", "0 begin => 0 0 3", "1 rollback => 7 0 0", "0 update t set v = 5 => 0 2 0", "0 rollback => 0 0 0", "0 rollback => 7 0 0", "0 commit => 7 0 0")
	wantEffect(t, b, noEffect)
	want(t, "Open", b.Open(0), false)
	wantView(t, b, 0, "t 1,0:0-10 2,0:0-10; u 7,1:2-5; ")
	// What was rolled back clashes with nothing, and is not in a session that begins anew.
	play(t, b, "1 begin => 0 0 3", "0 begin => 0 0 3", "0 update t set v = 5 => 0 2 0", "0 rollback => 0 0 0", "0 begin => 0 0 3")
	wantView(t, b, 0, "t 1,0:0-10 2,0:0-10; u 7,1:2-5; ")
	play(t, b, "1 update t set v = 6 => 0 2 0", "1 commit => 0 0 4", "0 commit => 0 0 0")
}

func TestP23_1Create(t *testing.T) {
	b := made(t, "0 create table t (k int, v text) => 0 0 0")
	wantEffect(t, b, `1 at 0 down to 0; table t [{k 1} {v 2}] "" 0`)
	play(t, b, "3 create table u (m int, n int) references t by n => 0 0 0")
	wantEffect(t, b, `1 at 0 down to 0; table u [{m 1} {n 1}] "t" 1`)
	want(t, "Names", b.Catalog().Names(), "[t u]")
	// It is no commit: no instant is given.
	want(t, "Whole", toldEffect(b.Whole()), `4 at 0 down to 0; table t [{k 1} {v 2}] "" 0; table u [{m 1} {n 1}] "t" 1`)
	for id := range sessions {
		play(t, b, fmt.Sprint(id, " begin => 0 0 0"))
		for other := range sessions {
			play(t, b, fmt.Sprint(other, " create table w (a int) => 7 0 0"), fmt.Sprint(other, " create table t (a int) => 6 0 0"))
		}
		play(t, b, fmt.Sprint(id, " rollback => 0 0 0"))
	}
	play(t, b, "0 create table w (a int) => 0 0 0", "0 create table x (a int) => 4 0 0")
	want(t, "Names", b.Catalog().Names(), "[t u w]")
}

func TestP23_1SelectOutsideOfASession(t *testing.T) {
	b := two(t)
	play(t, b, "0 update t set v = 9 from 4 to 6 where k = 1 => 0 1 4",
		"0 select * in t => 0 4 0 1,0:0-4 1,0:6-10 1,9:4-6 2,0:0-10",
		"1 select v in t where k = 1 order v => 0 3 0 0:0-4 0:6-10 9:4-6",
		"2 select * in t as of 1 => 0 1 0 1,0:0-10",
		"2 select * in t as of 0 => 0 0 0",
		"2 select k in t as of 1073741824 where v = 9 => 0 1 0 1:4-6",
		"3 select * in t from 1 to 3 => 0 2 0 1,0:0-10@1-3 2,0:0-10@2-3",
		"3 select * in t between 1 and 4 where k = 1 => 0 4 0 1,0:0-4@4-5 1,0:0-10@1-4 1,0:6-10@4-5 1,9:4-6@4-5",
		"0 select m, v in t join u on k = n => 0 2 0 7,0:2-4 7,9:4-5",
		"0 select m, v in t join u on k = n as of 3 => 0 1 0 7,0:2-5",
		"0 select * in t where k = 5 => 0 0 0")
	wantEffect(t, b, noEffect)
	want(t, "Last", b.Past().Last(), 4)
}

// What others commit is not seen now, but as of an instant it is: the past is one for all.
func TestP23_1SelectInASession(t *testing.T) {
	b := two(t)
	play(t, b, "1 begin => 0 0 3", "1 update t set v = 5 from 0 to 2 where k = 1 => 0 1 0",
		"2 update t set v = 8 where k = 2 => 0 1 4",
		"0 delete u => 0 1 5",
		"1 select * in t => 0 3 0 1,0:2-10 1,5:0-2 2,0:0-10",
		"1 select m, v in t join u on k = n => 0 1 0 7,0:2-5",
		"1 select * in t as of 3 => 0 2 0 1,0:0-10 2,0:0-10",
		"1 select * in t as of 4 => 0 2 0 1,0:0-10 2,8:0-10",
		"1 select * in t from 3 to 5 => 0 3 0 1,0:0-10@3-5 2,0:0-10@3-4 2,8:0-10@4-5",
		"1 select * in u between 3 and 9 => 0 1 0 7,1:2-5@3-5",
		"2 select * in t => 0 2 0 1,0:0-10 2,8:0-10",
		"0 select * in u => 0 0 0")
	play(t, b, "1 insert into t values (3, 3) from 5 to 6 => 0 1 0", "1 delete t from 1 to 9 where k = 2 => 0 1 0",
		"1 select * in t order v => 0 5 0 1,0:2-10 2,0:0-1 2,0:9-10 3,3:5-6 1,5:0-2",
		"3 select * in t => 0 2 0 1,0:0-10 2,8:0-10")
	play(t, b, "1 rollback => 0 0 0", "1 select * in t => 0 2 0 1,0:0-10 2,8:0-10")
}

func TestP23_1SelectOfWhatIsPruned(t *testing.T) {
	b := two(t)
	play(t, b, "tick 9", "0 update t set v = 1 where k = 1 => 0 1 10", "1 begin => 0 0 10", "0 prune 0 => 0 0 9",
		"1 select * in t as of 8 => 14 0 0", "0 select * in t as of 8 => 14 0 0", "1 select * in t as of 9 => 0 2 0 1,0:0-10 2,0:0-10",
		"1 select * in t from 8 to 11 => 14 0 0", "0 select * in t between 9 and 11 where k = 2 => 0 1 0 2,0:0-10@9-12",
		"0 select * in t from 9 to 1073741825 => 2 0 0", "0 select * in t as of -1 => 2 0 0", "1 select * in t between 9 and 1073741824 where k = 2 => 0 1 0 2,0:0-10@9-1073741825")
}

func TestP23_1Insert(t *testing.T) {
	b := two(t)
	for _, how := range []string{"outside", "in a session"} {
		fork := b.Fork()
		at := map[string]string{"outside": "4", "in a session": "0"}[how]
		if how == "in a session" {
			play(t, fork, "0 begin => 0 0 3")
		}
		// The key is there at a point: at all, at the first one, at the last one; also with the same values.
		for _, when := range []string{"0 to 10", "0 to 1", "9 to 10", "-1 to 1", "9 to 12", "3 to 5", "-1000 to 1000"} {
			play(t, fork, "0 insert into t values (1, 5) from "+when+" => 11 0 0", "0 insert into t values (1, 0) from "+when+" => 11 0 0")
		}
		// It is there at other points alone: rows that meet, and have the same values, are one.
		play(t, fork, "0 insert into t values (1, 5) from 10 to 12 => 0 1 "+at)
		wantView(t, fork, 0, "t 1,0:0-10 1,5:10-12 2,0:0-10; u 7,1:2-5; ")
		fork = b.Fork()
		if how == "in a session" {
			play(t, fork, "0 begin => 0 0 3")
		}
		play(t, fork, "0 insert into t values (1, 0) from -3 to 0 => 0 1 "+at)
		wantView(t, fork, 0, "t 1,0:-3-10 2,0:0-10; u 7,1:2-5; ")
		// The same key of another table is another one.
		fork = b.Fork()
		if how == "in a session" {
			play(t, fork, "0 begin => 0 0 3")
		}
		play(t, fork, "0 insert into u values (1, 2) from 0 to 10 => 0 1 "+at)
		wantView(t, fork, 0, "t 1,0:0-10 2,0:0-10; u 1,2:0-10 7,1:2-5; ")
	}
}

func TestP23_1InsertEffect(t *testing.T) {
	b := two(t)
	play(t, b, "0 insert into t values (1, 0) from 10 to 12 => 0 1 4")
	wantEffect(t, b, "2 at 4 down to 0; t gone 1,0:0-10 come 1,0:0-12")
	play(t, b, "0 begin => 0 0 4", "0 insert into t values (3, 0) from 10 to 12 => 0 1 0")
	wantEffect(t, b, noEffect)
	play(t, b, "0 commit => 0 0 5")
	wantEffect(t, b, "2 at 5 down to 0; t gone  come 3,0:10-12")
	// Texts as keys.
	b = made(t, "0 create table w (a text) => 0 0 0", "0 insert into w values ('it''s') from 0 to 1 => 0 1 1", "0 insert into w values ('it''s') from 0 to 1 => 11 0 0", "0 insert into w values ('') from 0 to 1 => 0 1 2")
	wantEffect(t, b, "2 at 2 down to 0; w gone  come '':0-1")
}

// full has a table t with n rows, one a key, in one commit.
func full(t *testing.T, n int) *base.Base {
	t.Helper()
	b := made(t, "0 create table t (k int, v int) => 0 0 0", "0 begin => 0 0 0")
	for k := range n {
		play(t, b, fmt.Sprintf("0 insert into t values (%d, 0) from 0 to 10 => 0 1 0", k))
	}
	play(t, b, "0 commit => 0 0 1")
	return b
}

func TestP23_1MaxRows(t *testing.T) {
	b := full(t, maxRows-1)
	play(t, b, "0 insert into t values (99, 0) from 0 to 10 => 0 1 2", "0 insert into t values (100, 0) from 0 to 10 => 4 0 0",
		"0 insert into t values (5, 0) from 0 to 10 => 11 0 0",
		"0 update t set v = 1 from 2 to 4 where k = 5 => 4 0 0", "0 update t set v = 1 where k = 5 => 0 1 3",
		"0 delete t from 2 to 4 where k = 5 => 4 0 0", "0 delete t from 2 to 10 where k = 5 => 0 1 4",
		// Rows that meet are one, so that there is no row more.
		"0 insert into t values (6, 0) from 10 to 20 => 0 1 5",
		"0 insert into t values (6, 1) from 20 to 30 => 4 0 0",
		"0 delete t where k = 7 => 0 1 6", "0 update t set v = 1 from 2 to 10 where k = 8 => 0 1 7", "0 insert into t values (7, 0) from 0 to 1 => 4 0 0")
	b = full(t, maxRows-1)
	play(t, b, "0 begin => 0 0 1", "0 insert into t values (99, 0) from 0 to 10 => 0 1 0", "0 insert into t values (100, 0) from 0 to 10 => 4 0 0",
		"0 insert into t values (5, 0) from 0 to 10 => 11 0 0",
		"0 update t set v = 1 from 2 to 4 where k = 5 => 4 0 0", "0 delete t from 2 to 4 where k = 5 => 4 0 0",
		"0 delete t where k = 5 => 0 1 0", "0 insert into t values (100, 0) from 0 to 10 => 0 1 0", "0 insert into t values (101, 0) from 0 to 10 => 4 0 0",
		"0 commit => 0 0 2", "0 insert into t values (101, 0) from 0 to 10 => 4 0 0")
	// Of several rows that are cut, the whole statement is refused.
	b = full(t, maxRows/2)
	play(t, b, "0 update t set v = 1 from 2 to 4 => 4 0 0", "0 update t set v = 1 from 2 to 10 => 0 8 2", "0 select * in t where k = 0 => 0 2 0 0,0:0-2 0,1:2-10")
}

func TestP23_1UpdateAndDelete(t *testing.T) {
	b := two(t)
	for _, x := range [][3]string{
		{"update t set v = 5", "2", "t 1,5:0-10 2,5:0-10; u 7,1:2-5; "},
		{"update t set v = 5 where k = 2", "1", "t 1,0:0-10 2,5:0-10; u 7,1:2-5; "},
		{"update t set v = 5 from 2 to 4", "2", "t 1,0:0-2 1,0:4-10 1,5:2-4 2,0:0-2 2,0:4-10 2,5:2-4; u 7,1:2-5; "},
		{"update t set v = 5 from 9 to 20 where not k = 1", "1", "t 1,0:0-10 2,0:0-9 2,5:9-10; u 7,1:2-5; "},
		{"update t set v = 0 from 2 to 4", "2", "t 1,0:0-10 2,0:0-10; u 7,1:2-5; "},
		{"update t set v = 5 where k = 3", "0", "t 1,0:0-10 2,0:0-10; u 7,1:2-5; "},
		{"update t set v = 5 from 10 to 20", "0", "t 1,0:0-10 2,0:0-10; u 7,1:2-5; "},
		{"update u set n = 2 from 3 to 4", "1", "t 1,0:0-10 2,0:0-10; u 7,1:2-3 7,1:4-5 7,2:3-4; "},
		{"delete u", "1", "t 1,0:0-10 2,0:0-10; "},
		{"delete u from 4 to 9", "1", "t 1,0:0-10 2,0:0-10; u 7,1:2-4; "},
		{"delete t where k = 2", "1", "t 1,0:0-10; u 7,1:2-5; "},
		{"delete t from 5 to 6", "2", "t 1,0:0-5 1,0:6-10 2,0:0-5 2,0:6-10; u 7,1:2-5; "},
		{"delete t from -5 to 0", "0", "t 1,0:0-10 2,0:0-10; u 7,1:2-5; "},
		{"delete t where v = 1", "0", "t 1,0:0-10 2,0:0-10; u 7,1:2-5; "},
	} {
		at := "4"
		if strings.HasPrefix(x[2], "t 1,0:0-10 2,0:0-10; u 7,1:2-5; ") {
			at = "0"
		}
		fork := b.Fork()
		play(t, fork, fmt.Sprintf("2 %s => 0 %s %s", x[0], x[1], at))
		wantView(t, fork, 2, x[2])
		wantView(t, fork, 0, x[2])
		effect := toldEffect(fork.Effect())
		if (at == "0") != (effect == noEffect) {
			t.Errorf("%s has the effect %s", x[0], effect)
		}
		fork = b.Fork()
		play(t, fork, "2 begin => 0 0 3", fmt.Sprintf("2 %s => 0 %s 0", x[0], x[1]))
		wantEffect(t, fork, noEffect)
		wantView(t, fork, 2, x[2])
		wantView(t, fork, 0, "t 1,0:0-10 2,0:0-10; u 7,1:2-5; ")
		play(t, fork, "2 commit => 0 0 "+at)
		wantEffect(t, fork, effect)
		wantView(t, fork, 0, x[2])
	}
}

// What its commit refuses is refused outside of a session; in one only the commit is.
func TestP23_1ErrorsOfTheCommit(t *testing.T) {
	b := two(t)
	for _, text := range []string{"insert into u values (8, 3) from 0 to 5", "insert into u values (8, 1) from 5 to 11", "update u set n = 3 from 3 to 4", "delete t from 4 to 5 where k = 1", "delete t"} {
		play(t, b, "1 "+text+" => 12 0 0")
		fork := b.Fork()
		count := fork.Do(1, "begin").Count + fork.Do(1, text).Count
		if count == 0 {
			t.Fatalf("%s hits nothing", text)
		}
		play(t, fork, "1 commit => 12 0 0", "1 rollback => 7 0 0")
		want(t, "what there is", whole(fork), whole(b))
	}
	// What breaks nothing at the end may have broken it in between.
	play(t, b, "1 begin => 0 0 3", "1 insert into u values (8, 3) from 0 to 5 => 0 1 0", "1 insert into t values (3, 3) from 0 to 9 => 0 1 0", "1 delete t where k = 1 => 0 1 0", "1 delete u where m = 7 => 0 1 0", "1 commit => 0 0 4")
	wantView(t, b, 1, "t 2,0:0-10 3,3:0-9; u 8,3:0-5; ")
	wantEffect(t, b, "2 at 4 down to 0; t gone 1,0:0-10 come 3,3:0-9; u gone 7,1:2-5 come 8,3:0-5")
}

// Outside of a session it is as in one: its begin takes an instant, too, if the clock has gone on. An error leaves even that as it was.
func TestP23_1InstantsOutsideOfASession(t *testing.T) {
	b := two(t)
	play(t, b, "tick 9", "0 update t set v = 1 where k = 1 => 0 1 10", "0 update t set v = 2 where k = 1 => 0 1 11")
	b = two(t)
	play(t, b, "1 begin => 0 0 3", "1 update t set v = 1 where k = 1 => 0 1 0", "tick 9",
		"0 insert into t values (2, 2) from 0 to 5 => 11 0 0", "0 delete t => 12 0 0", "0 select * in t as of 0 => 0 0 0")
	fork := b.Fork()
	play(t, b, "1 commit => 0 0 9")
	// Without a change there is none, but a begin there was.
	play(t, fork, "0 update t set v = 1 where k = 3 => 0 0 0", "1 commit => 0 0 10")
}

func TestP23_1CommitOfNone(t *testing.T) {
	b := two(t)
	play(t, b, "0 commit => 7 0 0", "1 begin => 0 0 3", "0 commit => 7 0 0", "1 commit => 0 0 0", "1 commit => 7 0 0")
	want(t, "Open", b.Open(1), false)
	wantEffect(t, b, noEffect)
	want(t, "Whole's At", b.Whole().At, 3)
	want(t, "Last", b.Past().Last(), 3)
}

func TestP23_1CommitWithoutAChange(t *testing.T) {
	b := two(t)
	play(t, b, "1 begin => 0 0 3", "2 begin => 0 0 3", "1 update t set v = 5 => 0 2 0", "1 update t set v = 0 => 0 2 0", "1 commit => 0 0 0")
	wantEffect(t, b, noEffect)
	// Nothing was committed, so nothing clashes.
	play(t, b, "2 update t set v = 6 => 0 2 0", "2 commit => 0 0 4")
	play(t, b, "3 begin => 0 0 4", "3 insert into t values (9, 9) from 0 to 5 => 0 1 0", "3 delete t where k = 9 => 0 1 0", "3 commit => 0 0 0", "3 begin => 0 0 4", "3 rollback => 0 0 0")
}

func TestP23_1CommitOfOneKey(t *testing.T) {
	for _, x := range []struct {
		first, second string
		errno         api.Errno
	}{
		{"update t set v = 5 where k = 1", "update t set v = 6 where k = 1", api.ErrClash},
		{"update t set v = 5 from 0 to 2 where k = 1", "update t set v = 6 from 8 to 10 where k = 1", api.ErrClash},
		{"update t set v = 5 from 0 to 2 where k = 1", "delete t from 8 to 10 where k = 1", api.ErrClash},
		{"insert into t values (3, 3) from 0 to 5", "insert into t values (3, 3) from 5 to 6", api.ErrClash},
		{"insert into t values (3, 3) from 0 to 5", "insert into t values (3, 3) from 0 to 5", api.ErrClash},
		{"insert into t values (1, 3) from 10 to 15", "update t set v = 7 where k = 1", api.ErrClash},
		{"update t set v = 5 where k = 1", "update t set v = 0", api.ErrClash},
		// To the same value, which changes nothing, is written, too.
		{"update t set v = 5 where k = 1", "update t set v = 0 where k = 1", api.ErrClash},
		{"update t set v = 5 where k = 1", "update t set v = 6 where k = 2", api.OK},
		{"update t set v = 5 where k = 1", "update t set v = 6 where k = 3", api.OK},
		{"insert into t values (7, 3) from 0 to 5", "update u set n = 2 where m = 7", api.OK},
		{"insert into t values (3, 3) from 0 to 5", "insert into t values (4, 3) from 0 to 5", api.OK},
		{"update t set v = 0 where k = 1", "update t set v = 6 where k = 1", api.OK},
	} {
		b := two(t)
		play(t, b, "1 begin => 0 0 3", "2 begin => 0 0 3")
		for id, text := range []string{x.first, x.second} {
			if r := b.Do(id+1, text); r.Errno != api.OK {
				t.Fatalf("%s = %v", text, r)
			}
		}
		if r := b.Do(1, "commit"); r.Errno != api.OK {
			t.Fatalf("commit of %s = %v", x.first, r)
		}
		ahead := b.Fork()
		want(t, "commit of "+x.second, b.Do(2, "commit").Errno, x.errno)
		want(t, "Open", b.Open(2), false)
		if x.errno != api.OK {
			wantEffect(t, b, noEffect)
			ahead.Do(2, "rollback")
			want(t, "what there is", whole(b), whole(ahead))
		}
	}
}

// Of keys that a session did not write the rows are those that others committed; of those that it wrote, its own alone.
func TestP23_1CommitBehindOthers(t *testing.T) {
	b := two(t)
	play(t, b, "1 begin => 0 0 3", "1 update t set v = 5 from 0 to 5 where k = 1 => 0 1 0", "1 insert into u values (9, 2) from 0 to 3 => 0 1 0",
		"2 update t set v = 6 from 0 to 7 where k = 2 => 0 1 4", "3 delete u where m = 7 => 0 1 5", "0 insert into t values (3, 3) from 0 to 9 => 0 1 6", "1 commit => 0 0 7")
	wantView(t, b, 0, "t 1,0:5-10 1,5:0-5 2,0:7-10 2,6:0-7 3,3:0-9; u 9,2:0-3; ")
	wantEffect(t, b, "2 at 7 down to 0; t gone 1,0:0-10 come 1,0:5-10 1,5:0-5; u gone  come 9,2:0-3")
}

// What holds in the view, but not with what another one committed, is refused.
func TestP23_1CommitThatNoLongerHolds(t *testing.T) {
	b := two(t)
	play(t, b, "1 begin => 0 0 3", "1 insert into u values (9, 2) from 0 to 3 => 0 1 0", "0 delete t from 1 to 2 where k = 2 => 0 1 4", "1 commit => 12 0 0", "1 commit => 7 0 0")
	wantView(t, b, 1, "t 1,0:0-10 2,0:0-1 2,0:2-10; u 7,1:2-5; ")
	b = two(t)
	play(t, b, "1 begin => 0 0 3", "1 delete t where k = 2 => 0 1 0", "0 insert into u values (9, 2) from 0 to 3 => 0 1 4", "1 commit => 12 0 0", "1 rollback => 7 0 0")
	// Two that each add the last row that may be.
	b = full(t, maxRows-1)
	play(t, b, "1 begin => 0 0 1", "2 begin => 0 0 1", "1 insert into t values (50, 0) from 0 to 1 => 0 1 0", "2 insert into t values (51, 0) from 0 to 1 => 0 1 0", "1 commit => 0 0 2", "2 commit => 4 0 0", "2 commit => 7 0 0")
	// A clash is told ahead of that.
	b = two(t)
	play(t, b, "1 begin => 0 0 3", "1 insert into u values (9, 2) from 0 to 3 => 0 1 0", "1 update t set v = 3 where k = 1 => 0 1 0", "0 delete t where k = 2 => 0 1 4", "0 update t set v = 4 => 0 1 5", "1 commit => 13 0 0")
}

// aged has 60 versions less free, of which one is in force.
func aged(t *testing.T, free int) *base.Base {
	t.Helper()
	b := made(t, "0 create table t (k int, v int) => 0 0 0", "0 create table u (m int, n int) references t by n => 0 0 0", "0 insert into t values (1, 0) from 0 to 10 => 0 1 1")
	for i := 1; i < maxVers-free; i++ {
		play(t, b, fmt.Sprintf("0 update t set v = %d => 0 1 %d", i, i+1))
	}
	return b
}

func TestP23_1CommitWithoutRoom(t *testing.T) {
	b := aged(t, 1)
	play(t, b, "0 update t set v = 99 => 0 1 60", "0 update t set v = 98 => 4 0 0", "0 insert into t values (2, 0) from 0 to 1 => 4 0 0",
		"0 begin => 0 0 60", "1 begin => 0 0 60", "0 insert into t values (2, 0) from 0 to 1 => 0 1 0", "0 commit => 4 0 0", "0 commit => 7 0 0",
		// What only ends versions needs no room, what has no change neither.
		"0 update t set v = 99 => 0 1 0", "1 delete t => 0 1 0", "1 commit => 0 0 61", "0 insert into t values (2, 0) from 0 to 1 => 4 0 0", "tick 61", "0 prune 60 => 0 0 1", "0 insert into t values (2, 0) from 0 to 1 => 4 0 0", "0 prune 59 => 0 1 2")
	// The begin at 61 is the highest instant.
	play(t, b, "0 insert into t values (2, 0) from 0 to 1 => 0 1 62", "0 insert into t values (3, 0) from 0 to 1 => 4 0 0", "0 prune 0 => 0 59 61", "0 insert into t values (3, 0) from 0 to 1 => 0 1 63")
}

// Room is asked for last: what does not hold is told ahead of it.
func TestP23_1CommitOrder(t *testing.T) {
	b := aged(t, 0)
	play(t, b, "0 insert into u values (5, 5) from 0 to 1 => 12 0 0", "0 insert into u values (5, 1) from 0 to 1 => 4 0 0")
	b = two(t)
	play(t, b, "1 begin => 0 0 3", "1 insert into u values (9, 9) from 0 to 3 => 0 1 0", "tick 1073741824", "0 begin => 0 0 1073741824", "1 commit => 4 0 0")
	b = two(t)
	play(t, b, "1 begin => 0 0 3", "1 update t set v = 1 where k = 1 => 0 1 0", "0 update t set v = 1 where k = 1 => 0 1 4", "tick 1073741824", "0 begin => 0 0 1073741824", "1 commit => 13 0 0")
}

func TestP23_1AtTheEndOfTime(t *testing.T) {
	b := two(t)
	play(t, b, "1 begin => 0 0 3", "1 update t set v = 1 => 0 2 0", "tick 1073741824", "0 update t set v = 2 => 4 0 0", "0 update t set v = 2 where k = 9 => 4 0 0", "1 commit => 0 0 1073741824",
		"0 begin => 0 0 1073741824", "0 commit => 4 0 0", "0 commit => 7 0 0", "0 begin => 0 0 1073741824", "0 insert into t values (9, 9) from 0 to 5 => 0 1 0", "0 select * in t where k = 9 => 0 1 0 9,9:0-5", "0 commit => 4 0 0",
		"0 select * in t as of 1073741824 => 0 2 0 1,1:0-10 2,1:0-10", "0 prune 0 => 0 2 1073741824", "0 select * in t as of 1073741823 => 14 0 0")
	want(t, "Whole's At", b.Whole().At, clock)
	want(t, "Replay into a new one", base.New().Replay(b.Whole()), api.OK)
}
