package base_test

import (
	"fmt"
	"maps"
	"slices"
	"strings"
	"testing"

	"regesta/api"
	"regesta/base"
	"regesta/check"
	"regesta/expr"
	"regesta/past"
	"regesta/query"
	"regesta/rows"
	"regesta/schema"
	"regesta/show"
	"regesta/value"
)

// The model is the chapter's words, point by point: a world tells which values each key of a table has at a point, and all worlds that were committed stand in a list. What a table's rows are, and which versions there were, is found out of these.
type model struct {
	tables  []api.Table
	clock   int
	high    int
	horizon int
	rolled  int // the last instant when partitions were laid
	open    map[int]seat
	moments []moment
	commits []commit
	effect  string
}

// The points that statements name lie from 0 to this one.
const points = 12

type place struct {
	table string
	key   api.Value
	point int
}

type world map[place][2]api.Value

type key struct {
	table string
	key   api.Value
}

type seat struct {
	since int
	view  world
	wrote map[key]bool
}

type moment struct {
	at    int
	world world
}

type commit struct {
	at   int
	keys map[key]bool
}

func newModel() *model {
	return &model{open: map[int]seat{}, moments: []moment{{0, world{}}}, effect: noEffect}
}

func (m *model) fork() *model {
	fork := *m
	fork.tables, fork.moments, fork.commits = slices.Clone(m.tables), slices.Clone(m.moments), slices.Clone(m.commits)
	fork.open = map[int]seat{}
	for id, s := range m.open {
		fork.open[id] = seat{s.since, maps.Clone(s.view), maps.Clone(s.wrote)}
	}
	return &fork
}

func (m *model) last() int { return m.moments[len(m.moments)-1].at }

func (m *model) now() world { return m.moments[len(m.moments)-1].world }

func (m *model) seen(id int) world {
	if s, ok := m.open[id]; ok {
		return s.view
	}
	return m.now()
}

func (m *model) table(name string) api.Table {
	return m.tables[slices.IndexFunc(m.tables, func(t api.Table) bool { return t.Name == name })]
}

func (m *model) catalog() *schema.Catalog {
	c := schema.New()
	for _, t := range m.tables {
		c.Create(t)
	}
	return c
}

// rows are the stretches of points at which a key has the same values.
func (w world) rows(t api.Table) []api.Row {
	var l []api.Row
	for at, vals := range w {
		ahead, met := w[place{t.Name, at.key, at.point - 1}]
		if at.table != t.Name || met && ahead == vals {
			continue
		}
		end := at.point
		for {
			next, ok := w[place{t.Name, at.key, end}]
			if !ok || next != vals {
				break
			}
			end++
		}
		l = append(l, api.Row{Vals: slices.Clone(vals[:len(t.Cols)]), Span: api.Span{From: at.point, To: end}})
	}
	slices.SortFunc(l, compareRows)
	return l
}

func compareRows(a, b api.Row) int {
	if c := slices.CompareFunc(a.Vals, b.Vals, value.Compare); c != 0 {
		return c
	}
	return a.Span.From - b.Span.From
}

func (m *model) state(w world) *rows.State {
	s := rows.New()
	for _, t := range m.tables {
		if l := w.rows(t); len(l) > 0 {
			s.Put(t.Name, l)
		}
	}
	return s
}

// versions are the stretches of commits in which a row was in force; those that ended until the horizon are forgotten.
func (m *model) versions() []api.Version {
	var l []api.Version
	for _, t := range m.tables {
		since := map[string]api.Version{}
		for _, x := range m.moments {
			there := map[string]bool{}
			for _, r := range x.world.rows(t) {
				text := toldRow(r)
				there[text] = true
				if _, known := since[text]; !known {
					since[text] = version(t.Name, r, x.at, forever)
				}
			}
			for text, v := range since {
				if !there[text] {
					v.Sys.To = x.at
					l = append(l, v)
					delete(since, text)
				}
			}
		}
		for _, v := range since {
			l = append(l, v)
		}
	}
	l = slices.DeleteFunc(l, func(v api.Version) bool { return v.Sys.To <= m.horizon })
	slices.SortFunc(l, func(a, b api.Version) int {
		if a.Sys != b.Sys {
			return slices.Compare([]int{a.Sys.From, a.Sys.To}, []int{b.Sys.From, b.Sys.To})
		}
		if a.Table != b.Table {
			return strings.Compare(a.Table, b.Table)
		}
		return compareRows(a.Row, b.Row)
	})
	return l
}

// changes are what makes the rows of one world those of another one, as an effect tells them; and how many rows come.
func (m *model) changes(from, to world) (string, int) {
	text, coming := "", 0
	names := m.catalog().Names()
	slices.Sort(names)
	for _, name := range names {
		before, after := from.rows(m.table(name)), to.rows(m.table(name))
		gone, come := without(before, after), without(after, before)
		coming += len(come)
		if len(gone)+len(come) > 0 {
			text += fmt.Sprintf("; %s gone %s come %s", name, toldRows(gone), toldRows(come))
		}
	}
	return text, coming
}

func without(a, b []api.Row) []api.Row {
	return slices.DeleteFunc(slices.Clone(a), func(r api.Row) bool {
		return slices.ContainsFunc(b, func(o api.Row) bool { return toldRow(o) == toldRow(r) })
	})
}

func failed(errno api.Errno) api.Reply { return api.Reply{Errno: errno} }

func (m *model) exec(id int, s api.Stmt) api.Reply {
	m.effect = noEffect
	if id < 0 || id >= sessions {
		return failed(api.ErrRange)
	}
	if errno := check.Stmt(m.catalog(), s); errno != api.OK {
		return failed(errno)
	}
	own, open := m.open[id]
	switch s.Kind {
	case api.Begin:
		if open {
			return failed(api.ErrState)
		}
		m.high = max(m.high, m.clock)
		m.open[id] = seat{m.high, maps.Clone(m.now()), map[key]bool{}}
		return api.Reply{At: m.high}
	case api.Rollback:
		if !open {
			return failed(api.ErrState)
		}
		delete(m.open, id)
		return api.Reply{}
	case api.Create:
		if len(m.open) > 0 {
			return failed(api.ErrState)
		}
		m.tables = append(m.tables, s.Table)
		m.effect = toldEffect(api.Effect{Kind: api.CreateIt, Tables: []api.Table{s.Table}})
		return api.Reply{}
	case api.Prune:
		return m.prune(open, s.A)
	case api.Select:
		p, errno := past.Of(m.last(), m.horizon, m.versions())
		if errno != api.OK {
			panic(errno)
		}
		l, errno := query.Run(m.catalog(), m.state(m.seen(id)), p, s)
		return api.Reply{Errno: errno, Count: len(l), Rows: l}
	case api.Commit:
		if !open {
			return failed(api.ErrState)
		}
		delete(m.open, id)
		return m.commit(own)
	}
	if open {
		return m.change(own, s)
	}
	// One that is opened and committed just for it: if it fails, it has never been.
	trial := m.fork()
	trial.exec(id, api.Stmt{Kind: api.Begin})
	r := trial.exec(id, s)
	if r.Errno != api.OK {
		return r
	}
	end := trial.exec(id, api.Stmt{Kind: api.Commit})
	if end.Errno != api.OK {
		return end
	}
	*m = *trial
	r.At = end.At
	return r
}

func (m *model) prune(open bool, age int) api.Reply {
	if open {
		return failed(api.ErrState)
	}
	asked := m.clock - age
	for _, s := range m.open {
		asked = min(asked, s.since)
	}
	asked = min(asked, m.last())
	m.rolled = m.last()
	if asked <= m.horizon {
		return api.Reply{At: m.horizon}
	}
	ahead := len(m.versions())
	m.horizon = asked
	m.effect = fmt.Sprintf("3 at 0 down to %d", asked)
	return api.Reply{Count: ahead - len(m.versions()), At: asked}
}

// change is the ordinary change at each point of the portion.
func (m *model) change(own seat, s api.Stmt) api.Reply {
	t := m.table(s.Name)
	view, wrote := maps.Clone(own.view), maps.Clone(own.wrote)
	within := func(point int) bool { return !s.HasSpan || s.Span.From <= point && point < s.Span.To }
	count := 0
	if s.Kind == api.Insert {
		vals := [2]api.Value{}
		copy(vals[:], s.Vals)
		for point := s.Span.From; point < s.Span.To; point++ {
			if _, there := view[place{t.Name, vals[0], point}]; there {
				return failed(api.ErrKey)
			}
			view[place{t.Name, vals[0], point}] = vals
		}
		wrote[key{t.Name, vals[0]}] = true
		count = 1
	} else {
		for _, r := range own.view.rows(t) {
			hit := false
			for point := r.Span.From; point < r.Span.To; point++ {
				hit = hit || within(point) && expr.Holds(s.Where, t.Cols, r.Vals)
			}
			if hit {
				count++
				wrote[key{t.Name, r.Vals[0]}] = true
			}
		}
		for at, vals := range own.view {
			if at.table != t.Name || !within(at.point) || !expr.Holds(s.Where, t.Cols, vals[:len(t.Cols)]) {
				continue
			}
			for _, set := range s.Sets {
				vals[schema.Column(t.Cols, set.Col)] = set.Val
			}
			view[at] = vals
			if s.Kind == api.Delete {
				delete(view, at)
			}
		}
	}
	if len(view.rows(t)) > maxRows {
		return failed(api.ErrSpace)
	}
	maps.Copy(own.wrote, wrote)
	clear(own.view)
	maps.Copy(own.view, view)
	return api.Reply{Count: count}
}

func (m *model) commit(own seat) api.Reply {
	for _, c := range m.commits {
		for k := range c.keys {
			if c.at > own.since && own.wrote[k] {
				return failed(api.ErrClash)
			}
		}
	}
	if m.high == clock {
		return failed(api.ErrSpace)
	}
	next := world{}
	for at, vals := range m.now() {
		if !own.wrote[key{at.table, at.key}] {
			next[at] = vals
		}
	}
	for at, vals := range own.view {
		if own.wrote[key{at.table, at.key}] {
			next[at] = vals
		}
	}
	if errno := m.broken(next); errno != api.OK {
		return failed(errno)
	}
	text, coming := m.changes(m.now(), next)
	if text == "" {
		return api.Reply{}
	}
	if len(m.versions())+coming > maxVers {
		return failed(api.ErrSpace)
	}
	m.high = max(m.clock, m.high+1)
	m.moments = append(m.moments, moment{m.high, next})
	m.commits = append(m.commits, commit{m.high, own.wrote})
	m.effect = fmt.Sprintf("2 at %d down to 0%s", m.high, text)
	return api.Reply{At: m.high}
}

func (m *model) broken(w world) api.Errno {
	for _, t := range m.tables {
		if len(w.rows(t)) > maxRows {
			return api.ErrSpace
		}
	}
	for at, vals := range w {
		t := m.table(at.table)
		if _, there := w[place{t.Parent, vals[t.Ref], at.point}]; t.Parent != "" && !there {
			return api.ErrRef
		}
	}
	return api.OK
}

func (m *model) told() string {
	at, some := 0, false
	for _, s := range m.open {
		if !some || s.since < at {
			at, some = s.since, true
		}
	}
	all := m.versions()
	force, loose, laid := 0, 0, 0
	for _, v := range all {
		switch {
		case v.Sys.To == forever:
			force++
		case v.Sys.To > m.rolled:
			loose++
		default:
			laid++
		}
	}
	text := fmt.Sprintln(m.clock, at, some, m.last(), force, loose, laid)
	for id := range sessions {
		_, open := m.open[id]
		text += fmt.Sprintln(id, open, toldState(m.state(m.seen(id))))
		if open {
			text += toldReply(m.fork().exec(id, api.Stmt{Kind: api.Commit}))
		}
	}
	return text + toldEffect(api.Effect{Kind: api.WholeIt, At: m.high, Horizon: m.horizon, Tables: m.tables, Versions: all})
}

// toldBase is what the model tells.
func toldBase(b *base.Base) string {
	at, some := b.Oldest()
	force, loose, laid := b.Past().Stored()
	text := fmt.Sprintln(b.Clock(), at, some, b.Past().Last(), force, loose, laid)
	for id := range sessions {
		view, _ := b.View(id)
		text += fmt.Sprintln(id, b.Open(id), toldState(view))
		if b.Open(id) {
			text += toldReply(b.Fork().Do(id, "commit"))
		}
	}
	return text + toldEffect(b.Whole())
}

// step does a statement to both, or lets time go on; the base is asked by a text, or by a statement.
func step(t *testing.T, b *base.Base, m *model, id int, s api.Stmt, byText bool) api.Errno {
	t.Helper()
	text, errno := show.Print(s)
	if errno != api.OK {
		t.Fatalf("%v has no text", s)
	}
	var got api.Reply
	if byText {
		got = b.Do(id, text)
	} else {
		got = b.Exec(id, s)
	}
	if a, w := toldReply(got), toldReply(m.exec(id, s)); a != w {
		t.Fatalf("%d %s = %s, not %s; there is %s", id, text, a, w, toldBase(b))
	}
	if a := toldEffect(b.Effect()); a != m.effect {
		t.Fatalf("the effect of %d %s is %s, not %s", id, text, a, m.effect)
	}
	agree(t, b, m, text)
	return got.Errno
}

func agree(t *testing.T, b *base.Base, m *model, text string) {
	t.Helper()
	if a, w := toldBase(b), m.told(); a != w {
		t.Fatalf("behind %s there is\n%s, not\n%s", text, a, w)
	}
	holds(t, b)
}

func tables(t *testing.T, b *base.Base, m *model) {
	t.Helper()
	for _, text := range []string{"create table t (k int, v int)", "create table u (m int, n int) references t by n", "create table a (x text)"} {
		step(t, b, m, 0, stmt(t, text), true)
	}
}

// All runs of a few steps of two sessions, and of what is done outside of one; each step is done to a fork, so that none of them is seen in another run.
func TestP23_4AllShortRuns(t *testing.T) {
	type thing struct {
		id   int
		text string
	}
	things := []thing{{0, "begin"}, {0, "commit"}, {0, "rollback"}, {1, "begin"}, {1, "commit"}, {0, "update t set v = 5 from 2 to 4 where k = 1"}, {1, "delete t from 3 to 9 where k = 1"}, {1, "insert into u values (1, 2) from 0 to 3"}, {2, "delete t where k = 2"}, {2, "prune 1"}, {2, "insert into t values (3, 3) from 1 to 2"}, {0, "select * in t"}}
	tried := 0
	var play func(b *base.Base, m *model, more int)
	play = func(b *base.Base, m *model, more int) {
		tried++
		if more == 0 {
			return
		}
		ahead := whole(b)
		for i, x := range things {
			fork, modelFork := b.Fork(), m.fork()
			if x.id == 2 && i%2 == 0 {
				fork.Tick(2)
				modelFork.clock += 2
			}
			step(t, fork, modelFork, x.id, stmt(t, x.text), true)
			play(fork, modelFork, more-1)
		}
		want(t, "what was forked", whole(b), ahead)
	}
	b, m := base.New(), newModel()
	tables(t, b, m)
	for _, text := range []string{"insert into t values (1, 0) from 0 to 10", "insert into t values (2, 0) from 0 to 10", "update t set v = 4 from 5 to 6 where k = 2"} {
		step(t, b, m, 3, stmt(t, text), true)
	}
	play(b, m, 3)
	step(t, b, m, 0, stmt(t, "begin"), true)
	step(t, b, m, 1, stmt(t, "begin"), true)
	play(b, m, 3)
	step(t, b, m, 0, stmt(t, "update t set v = 6 where k = 1"), true)
	step(t, b, m, 1, stmt(t, "update t set v = 7 where k = 2"), true)
	play(b, m, 3)
	if tried != 3*(1+12+144+1728) {
		t.Errorf("%d runs were tried", tried)
	}
}

type dice struct{ seed uint64 }

func (d *dice) below(n int) int {
	d.seed = d.seed*6364136223846793005 + 1442695040888963407
	return int(d.seed >> 33 % uint64(n))
}

func (d *dice) one(l ...string) string { return l[d.below(len(l))] }

func (d *dice) span() string {
	from := d.below(points)
	return fmt.Sprintf("from %d to %d", from, from+1+d.below(points-from))
}

func (d *dice) perhaps(text string) string { return d.one("", text) }

// statement is of a few keys and values, so that sessions meet; wide says how many.
func (d *dice) statement(wide int) string {
	k, v := d.below(wide), d.below(3)
	where := d.one("", fmt.Sprintf(" where k = %d", k), fmt.Sprintf(" where k = %d", k), fmt.Sprintf(" where v < %d", v), fmt.Sprintf(" where (v = %d or not k > %d)", v, k))
	whereU := d.one("", fmt.Sprintf(" where m = %d", k), fmt.Sprintf(" where n = %d", k))
	time := d.one("", "", fmt.Sprintf(" as of %d", d.below(40)), fmt.Sprintf(" from %d to %d", d.below(30), 30+d.below(30)), fmt.Sprintf(" between %d and %d", d.below(60), 60+d.below(30)))
	switch d.below(19) {
	case 0, 1:
		return "begin"
	case 2, 3:
		return "commit"
	case 4:
		return "rollback"
	case 5:
		return fmt.Sprintf("prune %d", d.below(12))
	case 6, 7, 8, 9:
		return fmt.Sprintf("insert into t values (%d, %d) %s", k, v, d.span())
	case 10:
		return fmt.Sprintf("insert into u values (%d, %d) %s", d.below(wide), k, d.span())
	case 11:
		return fmt.Sprintf("insert into a values ('%s') %s", d.one("", "x", "y''"), d.span())
	case 12, 13, 14:
		return fmt.Sprintf("update t set v = %d%s%s", v, d.perhaps(" "+d.span()), where)
	case 15:
		return fmt.Sprintf("update u set n = %d%s%s", v, d.perhaps(" "+d.span()), whereU)
	case 16:
		return fmt.Sprintf("delete %s %s%s", "t", d.perhaps(d.span()), where)
	case 17:
		return fmt.Sprintf("delete %s%s", d.one("u", "a"), d.perhaps(" "+d.span()))
	}
	return d.one("select * in t"+time+where, "select v, m in t join u on k = n"+time+" order m", "select * in a"+time, "select m in u"+time+whereU)
}

// Long runs of all sessions. The effects, one by one, make the same tables and the same past in another base; all there is, as one effect, in a new one.
func TestP23_6LongRuns(t *testing.T) {
	d := &dice{seed: 23}
	met := map[api.Errno]int{}
	for run := range 24 {
		b, m, mirror := base.New(), newModel(), base.New()
		tables(t, b, m)
		for _, x := range b.Catalog().Tables() {
			want(t, "Replay", mirror.Replay(api.Effect{Kind: api.CreateIt, Tables: []api.Table{x}}), api.OK)
		}
		wide := []int{2, 4, 9}[run%3]
		for i := range 250 {
			if d.below(6) == 0 {
				n := d.below(4) - 1
				b.Tick(n)
				m.clock += max(n, 0)
			}
			id := d.below(sessions)
			if d.below(40) == 0 {
				id = nobody()[d.below(len(nobody()))]
			}
			met[step(t, b, m, id, stmt(t, d.statement(wide)), i%2 == 0)]++
			if e := b.Effect(); e.Kind != api.NoEffect {
				want(t, "Replay", mirror.Replay(e), api.OK)
			}
			alike(t, mirror, b)
		}
		fresh := base.New()
		want(t, "Replay", fresh.Replay(b.Whole()), api.OK)
		want(t, "Whole", toldEffect(fresh.Whole()), toldEffect(b.Whole()))
	}
	for _, errno := range []api.Errno{api.ErrRange, api.ErrSpace, api.ErrState, api.ErrKey, api.ErrRef, api.ErrClash, api.ErrPruned} {
		if met[errno] < 20 {
			t.Errorf("the error %d was met %d times", errno, met[errno])
		}
	}
	if met[api.OK] < 2000 {
		t.Errorf("only %d statements were done", met[api.OK])
	}
}

// alike is P23.6.
func alike(t *testing.T, mirror, b *base.Base) {
	t.Helper()
	told := func(b *base.Base) string {
		p := b.Past()
		return fmt.Sprintln(p.Last(), p.Horizon(), toldState(p.Current()), toldEffect(api.Effect{Versions: p.Versions()}))
	}
	if !mirror.Catalog().Same(b.Catalog()) {
		t.Fatal("the tables are not the same")
	}
	if a, w := told(mirror), told(b); a != w {
		t.Fatalf("Replay makes\n%s, not\n%s", a, w)
	}
}
