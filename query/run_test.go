package query_test

import (
	"fmt"
	"slices"
	"testing"

	"regesta/api"
	"regesta/parse"
	"regesta/past"
	"regesta/query"
	"regesta/rows"
	"regesta/schema"
)

// store is all that a Select is asked of.
type store struct {
	c   *schema.Catalog
	now *rows.State
	p   *past.Past
}

func (s store) run(x api.Stmt) ([]api.Out, api.Errno) { return query.Run(s.c, s.now, s.p, x) }

func stmt(t *testing.T, text string) api.Stmt {
	t.Helper()
	s, place, e := parse.Stmt(text)
	if e != api.OK {
		t.Fatalf("Stmt(%q) = %d, at %d", text, e, place)
	}
	return s
}

// answer is what a text is answered, which must be no error.
func (s store) answer(t *testing.T, text string) []api.Out {
	t.Helper()
	l, e := s.run(stmt(t, text))
	if e != api.OK {
		t.Fatalf("%s = %d", text, e)
	}
	return l
}

func (s store) wants(t *testing.T, text string, l ...api.Out) {
	t.Helper()
	want(t, text, s.answer(t, text), l)
}

func (s store) refuses(t *testing.T, x api.Stmt, errno api.Errno) {
	t.Helper()
	if l, e := s.run(x); e != errno || len(l) > 0 {
		t.Errorf("%v = %v and %d, not %d", x, l, e, errno)
	}
}

func catalog(t *testing.T) *schema.Catalog {
	t.Helper()
	c := schema.New()
	for _, text := range []string{"create table t (k int, v int)", "create table u (m int, n text)", "create table o (x text, k int)"} {
		if e := c.Create(stmt(t, text).Table); e != api.OK {
			t.Fatalf("%s = %d", text, e)
		}
	}
	return c
}

// The rows of the history that follows.
var (
	a = row(0, 5, 1, 7)
	b = row(2, 9, 2, 3)
	c = row(5, 9, 1, 2)
	d = row(4, 8, 1, "x")
	e = row(0, 10, 2, "y")
)

func change(table string, gone, come []api.Row) api.Change {
	return api.Change{Table: table, Gone: gone, Come: come}
}

func history(t *testing.T) *past.Past {
	t.Helper()
	p := past.New()
	for _, x := range []struct {
		at      int
		changes []api.Change
	}{
		{3, []api.Change{change("t", nil, list(a, c)), change("u", nil, list(d))}},
		{6, []api.Change{change("t", list(a), list(b))}},
		{9, []api.Change{change("t", nil, list(a)), change("u", list(d), list(e))}},
	} {
		if errno := p.Apply(x.at, x.changes); errno != api.OK {
			t.Fatalf("Apply(%d) = %d", x.at, errno)
		}
	}
	return p
}

func put(t *testing.T, s *rows.State, name string, l ...api.Row) {
	t.Helper()
	if errno := s.Put(name, l); errno != api.OK {
		t.Fatalf("Put(%q) = %d", name, errno)
	}
}

// A session's view, which is not what the past has as its last state.
func view(t *testing.T) *rows.State {
	t.Helper()
	s := rows.New()
	put(t, s, "t", row(0, 9, 1, 1), row(3, 6, 2, 1), row(6, 9, 2, 5))
	put(t, s, "u", row(5, 7, 2, "z"), row(0, 4, 3, "z"), row(0, 1, 1, "q"))
	return s
}

func made(t *testing.T) store {
	t.Helper()
	return store{catalog(t), view(t), history(t)}
}

func in(from, to int, r api.Row) api.Out {
	return api.Out{Vals: r.Vals, Span: r.Span, Sys: span(from, to)}
}

func at(r api.Row) api.Out { return api.Out{Vals: r.Vals, Span: r.Span} }

func TestP21_2Now(t *testing.T) {
	s := made(t)
	x, y, z := still(0, 9, 1, 1), still(3, 6, 2, 1), still(6, 9, 2, 5)
	s.wants(t, "select * in t", x, y, z)
	s.wants(t, "select * in t where v = 1", x, y)
	s.wants(t, "select * in t where v > 9")
	s.wants(t, "select * in t where k = 2", y, z)
	s.wants(t, "select * in t where k = 7")
	s.wants(t, "select * in t where (k = 2 and v < 5)", y)
	s.wants(t, "select * in t where (k = 1 or v = 5)", x, z)
	s.wants(t, "select * in t where not k = 1", y, z)
	s.wants(t, "select v in t", still(0, 9, 1), still(3, 6, 1), still(6, 9, 5))
	s.wants(t, "select v, k, v in t where k = 2", still(3, 6, 1, 2, 1), still(6, 9, 5, 2, 5))
	s.wants(t, "select k in t order v", still(0, 9, 1), still(3, 6, 2), still(6, 9, 2))
	s.wants(t, "select * in u order n", still(0, 1, 1, "q"), still(5, 7, 2, "z"), still(0, 4, 3, "z"))
	s.wants(t, "select n in u where n <> 'q' order m", still(5, 7, "z"), still(0, 4, "z"))
	// A table that the state does not have has no rows.
	s.wants(t, "select * in o")
	s.wants(t, "select * in t where k = 1", x)
	want(t, "of an empty state", told(store{s.c, rows.New(), s.p}.answer(t, "select * in t")), "[]")
}

func TestP21_2NowOfWrongRows(t *testing.T) {
	s := made(t)
	good, short, long := row(0, 5, 1, 4), row(0, 5, 2), row(0, 5, 1, 2, 3, 4)
	l := list(good, short, long, good, row(5, 5, 1, 4), row(0, 1001, 1, 4), row(0, 5), row(0, 5, 1, 2, 3, 4, 5), short)
	for _, v := range wrong() {
		l = append(l, row(0, 5, v, 4), row(0, 5, 1, v))
	}
	put(t, s.now, "t", l...)
	s.wants(t, "select * in t", at(long), at(good), at(short))
	// A column that a row has no value for: no comparison holds of it, it comes first, and it is not told.
	s.wants(t, "select * in t where v > 0", at(long), at(good))
	s.wants(t, "select * in t where not v > 0", at(short))
	s.wants(t, "select * in t order v", at(short), at(long), at(good))
	s.wants(t, "select v in t order v", still(0, 5), still(0, 5, 2), still(0, 5, 4))
	s.wants(t, "select * in t where k = 1", at(long), at(good))
	// A table's rows hold any kinds.
	put(t, s.now, "t", row(0, 5, "a", 1), row(0, 5, 1, "a"))
	s.wants(t, "select * in t", still(0, 5, 1, "a"), still(0, 5, "a", 1))
	s.wants(t, "select * in t where k = 1", still(0, 5, 1, "a"))
	s.wants(t, "select * in t where v <> 1")
}

func TestP21_2AsOf(t *testing.T) {
	s := made(t)
	for instant, wanted := range map[int][]api.Out{0: nil, 1: nil, 2: nil, 3: outs(at(c), at(a)), 5: outs(at(c), at(a)), 6: outs(at(c), at(b)), 8: outs(at(c), at(b)), 9: outs(at(c), at(a), at(b)), 10: outs(at(c), at(a), at(b)), clock: outs(at(c), at(a), at(b))} {
		s.wants(t, fmt.Sprintf("select * in t as of %d", instant), wanted...)
	}
	s.wants(t, "select * in u as of 8", at(d))
	s.wants(t, "select * in u as of 9", at(e))
	s.wants(t, "select * in o as of 9")
	s.wants(t, "select v in t as of 9 where k = 1 order v", still(5, 9, 2), still(0, 5, 7))
	s.wants(t, "select v in t as of 9 where k > 0 order v", still(5, 9, 2), still(2, 9, 3), still(0, 5, 7))
	// The chapter's example.
	s.wants(t, "select v in t as of 5", still(5, 9, 2), still(0, 5, 7))
}

func TestP21_2FromTo(t *testing.T) {
	s := made(t)
	for text, wanted := range map[string][]api.Out{
		"from 0 to 3": nil, "from 0 to 4": outs(in(3, 4, c), in(3, 4, a)), "from 3 to 4": outs(in(3, 4, c), in(3, 4, a)), "from 3 to 6": outs(in(3, 6, c), in(3, 6, a)), "from 3 to 7": outs(in(3, 7, c), in(3, 6, a), in(6, 7, b)), "from 5 to 6": outs(in(5, 6, c), in(5, 6, a)), "from 6 to 9": outs(in(6, 9, c), in(6, 9, b)), "from 4 to 12": outs(in(4, 12, c), in(4, 6, a), in(9, 12, a), in(6, 12, b)), "from 12 to 13": outs(in(12, 13, c), in(12, 13, a), in(12, 13, b)),
		"from 0 to 1073741824":          outs(in(3, clock, c), in(3, 6, a), in(9, clock, a), in(6, clock, b)),
		"from 1073741823 to 1073741824": outs(in(clock-1, clock, c), in(clock-1, clock, a), in(clock-1, clock, b)),
		"between 0 and 2":               nil, "between 0 and 3": outs(in(3, 4, c), in(3, 4, a)), "between 3 and 3": outs(in(3, 4, c), in(3, 4, a)), "between 3 and 5": outs(in(3, 6, c), in(3, 6, a)), "between 3 and 6": outs(in(3, 7, c), in(3, 6, a), in(6, 7, b)), "between 6 and 8": outs(in(6, 9, c), in(6, 9, b)), "between 4 and 11": outs(in(4, 12, c), in(4, 6, a), in(9, 12, a), in(6, 12, b)),
		"between 0 and 1073741824":          outs(in(3, clock+1, c), in(3, 6, a), in(9, clock+1, a), in(6, clock+1, b)),
		"between 1073741824 and 1073741824": outs(in(clock, clock+1, c), in(clock, clock+1, a), in(clock, clock+1, b)),
	} {
		s.wants(t, "select * in t "+text, wanted...)
	}
	s.wants(t, "select k in t from 4 to 12 where v > 2 order v", during(span(6, 12), 2, 9, 2), during(span(4, 6), 0, 5, 1), during(span(9, 12), 0, 5, 1))
	s.wants(t, "select * in t between 4 and 11 where k = 2", in(6, 12, b))
	s.wants(t, "select * in u from 0 to 20", in(3, 9, d), in(9, 20, e))
	s.wants(t, "select * in o from 0 to 20")
}

// A row that ends and begins anew at one instant was in force all the while.
func TestP21_2FromToOfARowThatBeginsAnew(t *testing.T) {
	s := made(t)
	if errno := s.p.Apply(11, []api.Change{change("t", list(c), list(c))}); errno != api.OK {
		t.Fatal(errno)
	}
	s.wants(t, "select * in t from 9 to 20 where v = 2", in(9, 20, c))
}

func TestP21_2Join(t *testing.T) {
	s := made(t)
	s.wants(t, "select * in t join u on k = m", still(0, 1, 1, 1, 1, "q"), still(5, 6, 2, 1, 2, "z"), still(6, 7, 2, 5, 2, "z"))
	s.wants(t, "select * in u join t on m = k", still(0, 1, 1, "q", 1, 1), still(5, 6, 2, "z", 2, 1), still(6, 7, 2, "z", 2, 5))
	s.wants(t, "select * in t join u on v = m", still(0, 1, 1, 1, 1, "q"))
	s.wants(t, "select n, v in t join u on k = m order n", still(0, 1, "q", 1), still(5, 6, "z", 1), still(6, 7, "z", 5))
	s.wants(t, "select * in t join u on k = m order v", still(0, 1, 1, 1, 1, "q"), still(5, 6, 2, 1, 2, "z"), still(6, 7, 2, 5, 2, "z"))
	// Conditions of either table, and of both.
	s.wants(t, "select * in t join u on k = m where v = 5", still(6, 7, 2, 5, 2, "z"))
	s.wants(t, "select * in t join u on k = m where n = 'z'", still(5, 6, 2, 1, 2, "z"), still(6, 7, 2, 5, 2, "z"))
	s.wants(t, "select * in t join u on k = m where (n = 'z' and v = 1)", still(5, 6, 2, 1, 2, "z"))
	s.wants(t, "select * in t join u on k = m where (n = 'q' or v = 5)", still(0, 1, 1, 1, 1, "q"), still(6, 7, 2, 5, 2, "z"))
	s.wants(t, "select * in t join u on k = m where k = 2", still(5, 6, 2, 1, 2, "z"), still(6, 7, 2, 5, 2, "z"))
	s.wants(t, "select * in t join u on k = m where m = 2", still(5, 6, 2, 1, 2, "z"), still(6, 7, 2, 5, 2, "z"))
	s.wants(t, "select * in t join u on k = m where (m = 2 and k = 1)")
	s.wants(t, "select * in t join u on k = m where (m = 1 and k = 1)", still(0, 1, 1, 1, 1, "q"))
	// A table without rows.
	s.wants(t, "select * in u join o on m = k")
	s.wants(t, "select * in o join u on k = m")
	// By columns that are not the first ones.
	put(t, s.now, "o", row(0, 9, "z", 3), row(0, 9, "q", 2))
	s.wants(t, "select * in u join o on m = k", still(5, 7, 2, "z", "q", 2), still(0, 4, 3, "z", "z", 3))
	s.wants(t, "select * in o join u on k = m", still(5, 7, "q", 2, 2, "z"), still(0, 4, "z", 3, 3, "z"))
	s.wants(t, "select * in u join o on n = x", still(0, 1, 1, "q", "q", 2), still(5, 7, 2, "z", "z", 3), still(0, 4, 3, "z", "z", 3))
}

func TestP21_2JoinOfThePast(t *testing.T) {
	s := made(t)
	s.wants(t, "select * in t join u on k = m as of 2")
	s.wants(t, "select * in t join u on k = m as of 4", still(5, 8, 1, 2, 1, "x"), still(4, 5, 1, 7, 1, "x"))
	s.wants(t, "select * in t join u on k = m as of 6", still(5, 8, 1, 2, 1, "x"))
	s.wants(t, "select * in t join u on k = m as of 9", still(2, 9, 2, 3, 2, "y"))
	s.wants(t, "select * in t join u on k = m from 4 to 12", during(span(4, 9), 5, 8, 1, 2, 1, "x"), during(span(4, 6), 4, 5, 1, 7, 1, "x"), during(span(9, 12), 2, 9, 2, 3, 2, "y"))
	s.wants(t, "select n, v in t join u on k = m between 5 and 6 order v", during(span(5, 7), 5, 8, "x", 2), during(span(5, 6), 4, 5, "x", 7))
	s.wants(t, "select v in t join u on k = m from 0 to 1073741824 where (n = 'y' and k = 2)", during(span(9, clock), 2, 9, 3))
}

// Behind a row that has not as many values as columns, those of the other table stand at other places: a condition asks the values that stand at its columns'.
func TestP21_3JoinOfWrongRows(t *testing.T) {
	s := made(t)
	put(t, s.now, "t", row(0, 9, 1), row(0, 9, 1, 5, 6), row(0, 9, 1, 4))
	put(t, s.now, "u", row(0, 9, 1, "x"))
	short, long, good := still(0, 9, 1, 1, "x"), still(0, 9, 1, 5, 6, 1, "x"), still(0, 9, 1, 4, 1, "x")
	s.wants(t, "select * in t join u on k = m", short, good, long)
	s.wants(t, "select * in t join u on k = m where m = 1", good)
	s.wants(t, "select * in t join u on k = m where m = 6", long)
	s.wants(t, "select * in t join u on k = m where not m = 1", short, long)
	s.wants(t, "select m in t join u on k = m", still(0, 9, "x"), still(0, 9, 1), still(0, 9, 6))
	s.wants(t, "select * in t join u on v = m")
}

func TestP21_2Nil(t *testing.T) {
	s := made(t)
	for _, x := range []api.Stmt{stmt(t, "select * in t"), stmt(t, "select * in nothing"), stmt(t, "begin"), {}} {
		for which := range 7 {
			half := store{}
			if which&1 > 0 {
				half.c = s.c
			}
			if which&2 > 0 {
				half.now = s.now
			}
			if which&4 > 0 {
				half.p = s.p
			}
			half.refuses(t, x, api.ErrNil)
		}
	}
}

func TestP21_2ErrorsOfCheck(t *testing.T) {
	s := made(t)
	for text, errno := range map[string]api.Errno{
		"select * in x": api.ErrNoent, "select * in t join x on k = m": api.ErrNoent, "select * in x join t on k = m": api.ErrNoent, "select x in t": api.ErrNoent, "select n in t": api.ErrNoent, "select * in t join u on x = m": api.ErrNoent, "select * in t join u on k = x": api.ErrNoent, "select * in t join u on m = k": api.ErrNoent, "select x in t join u on k = m": api.ErrNoent, "select * in t where x = 1": api.ErrNoent, "select * in t where n = 'x'": api.ErrNoent, "select * in t order x": api.ErrNoent, "select * in t order n": api.ErrNoent, "select * in t join u on k = m where x = 1": api.ErrNoent, "select * in t join u on k = m order x": api.ErrNoent,
		// A table with itself, and one that has a column of the same name.
		"select * in t join t on k = k": api.ErrExist, "select * in t join t on k = v": api.ErrExist, "select * in t join o on k = x": api.ErrExist, "select * in t join t on k = k as of 4": api.ErrExist, "select * in t join t on x = x": api.ErrExist,
		"select * in t join u on k = n": api.ErrType, "select * in t where k = 'x'": api.ErrType, "select * in t join u on k = m where n = 1": api.ErrType, "select * in u as of 3 where n = 1": api.ErrType,
		"select * in t as of -1": api.ErrRange, "select * in t as of 1073741825": api.ErrRange, "select * in t from -1 to 5": api.ErrRange, "select * in t from 0 to 1073741825": api.ErrRange, "select * in t between -1 and 5": api.ErrRange, "select * in t between 0 and 1073741825": api.ErrRange, "select * in t between 1073741825 and 1073741825": api.ErrRange,
		// A while without instants.
		"select * in t from 5 to 5": api.ErrPeriod, "select * in t from 6 to 5": api.ErrPeriod, "select * in t from 0 to 0": api.ErrPeriod, "select * in t between 6 and 5": api.ErrPeriod, "select * in t between 1 and 0": api.ErrPeriod,
	} {
		s.refuses(t, stmt(t, text), errno)
	}
}

func TestP21_2NotSound(t *testing.T) {
	s := made(t)
	s.refuses(t, api.Stmt{}, api.ErrForm)
	for what, spoil := range map[string]func(x *api.Stmt){
		"no kind": func(x *api.Stmt) { x.Kind = api.NoStmt }, "another kind": func(x *api.Stmt) { x.Kind = 99 }, "no name": func(x *api.Stmt) { x.Name = "" }, "a name that is none": func(x *api.Stmt) { x.Name = "T" }, "another time": func(x *api.Stmt) { x.Time = 4 }, "instants of now": func(x *api.Stmt) { x.A = 1 }, "an end of as of": func(x *api.Stmt) { x.Time, x.B = api.AsOf, 4 }, "a join without on": func(x *api.Stmt) { x.Join = "u" }, "an on without a join": func(x *api.Stmt) { x.On = [2]string{"k", "m"} }, "values": func(x *api.Stmt) { x.Vals = values(1) }, "sets": func(x *api.Stmt) { x.Sets = []api.Set{{}} }, "a span": func(x *api.Stmt) { x.HasSpan, x.Span = true, span(0, 5) }, "a table": func(x *api.Stmt) { x.Table.Name = "t" }, "a column that is none": func(x *api.Stmt) { x.Cols = []string{""} }, "an order that is none": func(x *api.Stmt) { x.Order = "\xff" }, "a condition of no kind": func(x *api.Stmt) { x.Where = []api.Cond{{}} }, "a condition with kids that are none": func(x *api.Stmt) { x.Where = []api.Cond{{Kind: api.Not, Kids: []int{0}}} },
	} {
		x := stmt(t, "select * in t")
		spoil(&x)
		if l, e := s.run(x); e != api.ErrForm || len(l) > 0 {
			t.Errorf("%s: %v and %d", what, l, e)
		}
	}
}

func TestP21_2NoSelect(t *testing.T) {
	s := made(t)
	s.c = schema.New()
	s.c.Create(stmt(t, "create table t (k int, v int)").Table)
	for text, errno := range map[string]api.Errno{
		"begin": api.ErrForm, "commit": api.ErrForm, "rollback": api.ErrForm, "prune 0": api.ErrForm, "prune 3": api.ErrForm, "create table y (a int)": api.ErrForm, "insert into t values (1, 2) from 0 to 5": api.ErrForm, "update t set v = 1": api.ErrForm, "delete t": api.ErrForm, "delete t from 0 to 5 where k = 1": api.ErrForm,
		// What check says is named first.
		"insert into x values (1, 2) from 0 to 5": api.ErrNoent, "insert into t values (1) from 0 to 5": api.ErrType, "insert into t values (1, 2) from 5 to 5": api.ErrPeriod, "update t set k = 1": api.ErrState, "update t set v = 1, v = 2": api.ErrExist, "delete x": api.ErrNoent, "prune -1": api.ErrRange, "create table t (a int)": api.ErrExist,
	} {
		s.refuses(t, stmt(t, text), errno)
	}
}

// pruned has the horizon 6.
func pruned(t *testing.T) store {
	t.Helper()
	s := made(t)
	s.p.Roll()
	if _, errno := s.p.Prune(6); errno != api.OK {
		t.Fatal(errno)
	}
	return s
}

func TestP21_2ErrorsOfPast(t *testing.T) {
	s := pruned(t)
	for _, text := range []string{"as of 0", "as of 5", "from 0 to 6", "from 5 to 6", "from 5 to 7", "from 0 to 1073741824", "between 0 and 5", "between 5 and 5", "between 5 and 6", "between 0 and 1073741824"} {
		for _, front := range []string{"select * in t ", "select v in t ", "select * in o ", "select * in t join u on k = m ", "select n in t join u on k = m "} {
			for _, behind := range []string{"", " where k = 1", " order k", " where k > 0 order k"} {
				s.refuses(t, stmt(t, front+text+behind), api.ErrPruned)
			}
		}
	}
	// At the horizon, and behind it.
	s.wants(t, "select * in t as of 6", at(c), at(b))
	s.wants(t, "select * in t from 6 to 7", in(6, 7, c), in(6, 7, b))
	s.wants(t, "select * in t between 6 and 6", in(6, 7, c), in(6, 7, b))
	s.wants(t, "select * in t from 6 to 1073741824", in(6, clock, c), in(9, clock, a), in(6, clock, b))
	s.wants(t, "select * in t as of 1073741824", at(c), at(a), at(b))
	s.wants(t, "select * in t join u on k = m as of 6", still(5, 8, 1, 2, 1, "x"))
	// What is in force has no horizon.
	s.wants(t, "select k in t where v = 5", still(6, 9, 2))
}

// All that check says is ahead of what the past says.
func TestP21_2OrderOfErrors(t *testing.T) {
	s := pruned(t)
	for text, errno := range map[string]api.Errno{
		"select * in x as of 0": api.ErrNoent, "select x in t as of 0": api.ErrNoent, "select * in t join t on k = k as of 0": api.ErrExist, "select * in t join u on k = n as of 0": api.ErrType, "select * in t as of -1": api.ErrRange, "select * in t from 0 to 1073741825": api.ErrRange, "select * in t between 0 and 1073741825": api.ErrRange, "select * in t from 0 to 0": api.ErrPeriod, "select * in t from 5 to 4": api.ErrPeriod, "select * in t between 5 and 4": api.ErrPeriod, "select * in t as of 0 where x = 1": api.ErrNoent, "select * in t as of 0 where k = 'x'": api.ErrType, "select * in t from 0 to 5 order x": api.ErrNoent,
	} {
		s.refuses(t, stmt(t, text), errno)
	}
	wrong := stmt(t, "select * in t as of 0")
	wrong.B = 7
	s.refuses(t, wrong, api.ErrForm)
}

func toldStore(s store) string {
	text := fmt.Sprint(s.c.Tables(), s.p.Versions(), s.p.Parts(), s.p.Horizon(), s.p.Last())
	for _, name := range s.now.Names() {
		text += fmt.Sprintf("; %q %v", name, s.now.Get(name))
	}
	return text
}

func TestP3RunChangesNothing(t *testing.T) {
	s := made(t)
	s.p.Roll()
	ahead := toldStore(s)
	for _, text := range []string{"select * in t", "select v in t order v", "select * in t as of 9", "select * in t from 3 to 10", "select * in t between 3 and 9 where k > 0", "select * in t join u on k = m", "select v, v, n in t join u on k = m from 3 to 10 order n"} {
		x := stmt(t, text)
		x.Cols = append(slices.Clone(x.Cols), "spare", "room")[:len(x.Cols)]
		x.Where = append(slices.Clone(x.Where), api.Cond{Col: "spare"})[:len(x.Where)]
		toldStmt := func() string { return fmt.Sprint(x, x.Cols[:cap(x.Cols)], x.Where[:cap(x.Where)]) }
		before := toldStmt()
		l, _ := s.run(x)
		answered := told(l)
		if len(l) < 2 {
			t.Errorf("%s has only %v", text, l)
		}
		apart(t, text, l)
		scribble(l)
		want(t, "what is asked of, behind "+text+",", toldStore(s), ahead)
		want(t, "what was handed in", toldStmt(), before)
		again, _ := s.run(x)
		want(t, text+", again,", again, answered)
	}
}

func TestP6NothingIsKept(t *testing.T) {
	s := made(t)
	empty := store{catalog(t), rows.New(), past.New()}
	for range 10 {
		for _, text := range []string{"select * in t", "select * in t as of 9", "select * in t from 0 to 20", "select * in t join u on k = m"} {
			if len(s.answer(t, text)) == 0 || len(empty.answer(t, text)) > 0 {
				t.Fatal(text)
			}
		}
	}
}
