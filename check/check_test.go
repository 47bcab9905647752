package check_test

import (
	"reflect"
	"slices"
	"strings"
	"testing"

	"regesta/api"
	"regesta/check"
	"regesta/parse"
	"regesta/schema"
	"regesta/show"
)

// The calls are those of the chapter.
var (
	_ func(*schema.Catalog, api.Stmt) api.Errno              = check.Stmt
	_ func([]api.Col, []api.Cond) api.Errno                  = check.Where
	_ func(*schema.Catalog, api.Stmt) ([]api.Col, api.Errno) = check.Cols
)

func num(n int64) api.Value  { return api.Value{Kind: api.Int, Num: n} }
func str(s string) api.Value { return api.Value{Kind: api.Text, Str: s} }

func compare(col string, op api.CmpOp, v api.Value) api.Cond {
	return api.Cond{Kind: api.Cmp, Col: col, Op: op, Val: v}
}

func joint(k api.CondKind, kids ...int) api.Cond { return api.Cond{Kind: k, Kids: kids} }

func stmt(t *testing.T, text string) api.Stmt {
	t.Helper()
	s, at, e := parse.Stmt(text)
	if e != api.OK {
		t.Fatalf("Stmt(%q): %d, %d", text, at, e)
	}
	return s
}

func condition(t *testing.T, text string) []api.Cond {
	t.Helper()
	l, at, e := parse.Where(text)
	if e != api.OK {
		t.Fatalf("Where(%q): %d, %d", text, at, e)
	}
	return l
}

// made is a catalog of the tables that texts create.
func made(t *testing.T, texts ...string) *schema.Catalog {
	t.Helper()
	c := schema.New()
	for _, text := range texts {
		if e := c.Create(stmt(t, text).Table); e != api.OK {
			t.Fatalf("%s: %d", text, e)
		}
	}
	return c
}

// full has as many tables as may be; t and z have a name in common.
func full(t *testing.T) (*schema.Catalog, model) {
	t.Helper()
	c := made(t, "create table t (k int, v text, w int)", "create table u (m int, n text)", "create table z (q text, w int)")
	return c, c.Tables()
}

func wantStmt(t *testing.T, c *schema.Catalog, s api.Stmt, want api.Errno) {
	t.Helper()
	before := c.Fork()
	if got := check.Stmt(c, s); got != want {
		t.Errorf("Stmt(%+v) = %d, not %d", s, got, want)
	}
	if before != nil && !before.Same(c) {
		t.Errorf("Stmt(%+v) changed the catalog", s)
	}
}

func wantTexts(t *testing.T, c *schema.Catalog, wants map[string]api.Errno) {
	t.Helper()
	for text, want := range wants {
		if got := check.Stmt(c, stmt(t, text)); got != want {
			t.Errorf("%s: %d, not %d", text, got, want)
		}
	}
}

func TestP13_1Where(t *testing.T) {
	cols := []api.Col{{Name: "a", Kind: api.Int}, {Name: "b", Kind: api.Text}, {Name: "a", Kind: api.Text}, {Name: "n"}, {Name: "o", Kind: 9}}
	for text, want := range map[string]api.Errno{
		"a = 1": api.OK, "a <> -5": api.OK, "b >= 'x'": api.OK, "not b = ''": api.OK, "(a = 1 and (b = 'x' or not a > 3))": api.OK,
		"c = 1": api.ErrNoent, "c = 'x'": api.ErrNoent, "not c = 1": api.ErrNoent, "a = 'x'": api.ErrType, "b < 1": api.ErrType, "not a = ''": api.ErrType,
		"(c = 1 and a = 'x')": api.ErrNoent, "(a = 'x' and c = 1)": api.ErrType, "(a = 1 or c = 1)": api.ErrNoent, "(b = 'x' or b = 1)": api.ErrType, "((a = 1 and b = 2) or c = 3)": api.ErrType, "(not (a = 1 and c = 2) or b = 3)": api.ErrNoent,
		"n = 1": api.ErrType, "n = 'x'": api.ErrType, "o = 1": api.ErrType,
	} {
		if got := check.Where(cols, condition(t, text)); got != want {
			t.Errorf("Where(%q) = %d, not %d", text, got, want)
		}
	}
	if got := check.Where(nil, condition(t, "a = 1")); got != api.ErrNoent {
		t.Errorf("Where of no columns = %d", got)
	}
	for _, none := range [][]api.Cond{nil, {}} {
		if check.Where(cols, none) != api.OK || check.Where(nil, none) != api.OK {
			t.Error("Where of no parts")
		}
	}
}

// What no text says is told ahead of what does not fit.
func TestP13_1WhereThatNoTextSays(t *testing.T) {
	one, wrong := compare("a", api.Eq, num(1)), compare("c", api.Eq, str("x"))
	for _, l := range [][]api.Cond{
		{{}}, {wrong, {}}, {wrong, one}, {wrong, joint(api.Not)}, {wrong, joint(api.Not, 1)}, {wrong, joint(api.Not, -1)}, {wrong, joint(api.Not, 0, 0)}, {wrong, joint(api.And, 0)}, {wrong, one, joint(api.And, 1, 0)}, {wrong, joint(api.And, 0, 0)}, {wrong, one, one, joint(api.Or, 0, 1, 2)}, {joint(api.Not, 1), wrong},
		{compare("a", api.NoCmp, num(1))}, {compare("a", 7, str("x"))}, {compare("", api.Eq, num(1))}, {compare("A", api.Eq, num(1))}, {compare("to", api.Eq, num(1))},
		{compare("a", api.Eq, api.Value{})}, {compare("a", api.Eq, api.Value{Kind: api.Int, Str: "x"})}, {compare("a", api.Eq, num(1<<40+1))}, {compare("a", api.Eq, str("abcdefghi"))}, {compare("a", api.Eq, str("\xff"))},
		{{Kind: api.Cmp, Col: "a", Op: api.Eq, Val: num(1), Kids: []int{0}}}, {one, joint(9, 0)}, deep(7),
	} {
		for _, cols := range [][]api.Col{nil, {{Name: "a", Kind: api.Int}}} {
			if got := check.Where(cols, l); got != api.ErrForm {
				t.Errorf("Where(%+v) = %d", l, got)
			}
		}
	}
	if got := check.Where([]api.Col{{Name: "a", Kind: api.Int}}, deep(6)); got != api.OK {
		t.Errorf("Where of a condition as deep as may be = %d", got)
	}
}

func deep(levels int) []api.Cond {
	l := []api.Cond{compare("a", api.Eq, num(1))}
	for i := range levels - 1 {
		l = append(l, joint(api.Not, i))
	}
	return l
}

func wantCols(t *testing.T, c *schema.Catalog, text string, want api.Errno, told ...api.Col) {
	t.Helper()
	if got, e := check.Cols(c, stmt(t, text)); e != want || !slices.Equal(got, told) {
		t.Errorf("Cols(%q) = %+v, %d, not %+v, %d", text, got, e, told, want)
	}
}

func TestP13_1Cols(t *testing.T) {
	c, _ := full(t)
	k, v, w := api.Col{Name: "k", Kind: api.Int}, api.Col{Name: "v", Kind: api.Text}, api.Col{Name: "w", Kind: api.Int}
	m, n := api.Col{Name: "m", Kind: api.Int}, api.Col{Name: "n", Kind: api.Text}
	wantCols(t, c, "select * in t", api.OK, k, v, w)
	wantCols(t, c, "select w, k in t", api.OK, w, k)
	wantCols(t, c, "select v, k, v in t", api.OK, v, k, v)
	wantCols(t, c, "select * in t join u on k = m", api.OK, k, v, w, m, n)
	wantCols(t, c, "select * in u join t on n = v", api.OK, m, n, k, v, w)
	wantCols(t, c, "select n, k in t join u on w = m", api.OK, n, k)
	wantCols(t, c, "select * in g", api.ErrNoent)
	wantCols(t, c, "select * in t join g on k = k", api.ErrNoent)
	wantCols(t, c, "select * in g join t on k = k", api.ErrNoent)
	wantCols(t, c, "select * in t join t on k = k", api.ErrExist)
	wantCols(t, c, "select * in t join z on k = w", api.ErrExist)
	wantCols(t, c, "select g in z join t on g = g", api.ErrExist)
	wantCols(t, c, "select * in t join u on m = k", api.ErrNoent)
	wantCols(t, c, "select * in t join u on g = m", api.ErrNoent)
	wantCols(t, c, "select * in t join u on k = g", api.ErrNoent)
	wantCols(t, c, "select * in t join u on k = v", api.ErrNoent)
	wantCols(t, c, "select * in t join u on m = n", api.ErrNoent)
	wantCols(t, c, "select g in t join u on k = n", api.ErrType)
	wantCols(t, c, "select * in t join u on v = m", api.ErrType)
	wantCols(t, c, "select g in t", api.ErrNoent)
	wantCols(t, c, "select m in t", api.ErrNoent)
	wantCols(t, c, "select k, v, g in t", api.ErrNoent)
	wantCols(t, c, "select k, q in t join u on k = m", api.ErrNoent)
	wantCols(t, schema.New(), "select * in t", api.ErrNoent)
	// What else is wrong with a Select is of no matter here.
	wantCols(t, c, "select k in t from 5 to -1 where g = 'x' order g", api.OK, k)
}

// The name in common may stand at any place of either table.
func TestP13_1ColsOfNamesInCommon(t *testing.T) {
	for _, pair := range [][2]string{{"k int", "k int"}, {"k int, x int", "k text"}, {"x int, k int", "k int, y text"}, {"k int, x int", "y int, k int"}, {"a int, b int, c int, k text", "d int, e int, f int, k text"}} {
		c := made(t, "create table l ("+pair[0]+")", "create table r ("+pair[1]+")")
		wantCols(t, c, "select * in l join r on k = k", api.ErrExist)
		wantCols(t, c, "select g in r join l on g = g", api.ErrExist)
		wantStmt(t, c, stmt(t, "select * in l join r on g = y as of -1"), api.ErrExist)
	}
}

func TestP13_1ColsOfOthers(t *testing.T) {
	c, _ := full(t)
	for _, text := range []string{"create table a (b int)", "insert into t values (1) from 0 to 1", "update t set v = 'x'", "delete t", "begin", "commit", "rollback", "prune 0"} {
		wantCols(t, c, text, api.ErrForm)
		wantCols(t, nil, text, api.ErrNil)
	}
	for _, s := range []api.Stmt{{}, {Kind: 99}, {Kind: api.Select}, {Kind: api.Select, Name: "T"}, {Kind: api.Select, Name: "g", HasSpan: true}, {Kind: api.Select, Name: "t", Join: "u"}, {Kind: api.Select, Name: "t", Cols: []string{"*"}}, {Kind: api.Select, Name: "t", A: 1}, {Kind: api.Select, Name: "t", Where: []api.Cond{{}}}, {Kind: api.Select, Name: "t", Time: 9}} {
		if got, e := check.Cols(c, s); e != api.ErrForm || len(got) != 0 {
			t.Errorf("Cols(%+v) = %+v, %d", s, got, e)
		}
		if got, e := check.Cols(nil, s); e != api.ErrNil || len(got) != 0 {
			t.Errorf("Cols(nil, %+v) = %+v, %d", s, got, e)
		}
	}
	wantCols(t, nil, "select * in t", api.ErrNil)
}

// unsound are statements of each kind, and of none, that no text says; in the catalog, too, there is nothing for them.
func unsound() []api.Stmt {
	one := []api.Value{num(1)}
	all := []api.Stmt{
		{}, {Kind: 10}, {Kind: 255}, {Kind: api.NoStmt, Name: "t"}, {Kind: api.Create}, {Kind: api.Create, Table: api.Table{Name: "a"}}, {Kind: api.Create, Table: api.Table{Name: "t", Cols: []api.Col{{Name: "k"}}}}, {Kind: api.Create, Table: api.Table{Name: "t", Cols: []api.Col{{Name: "k", Kind: api.Int}}, Ref: 1}},
		{Kind: api.Insert, Name: "g"}, {Kind: api.Insert, Name: "t", Vals: one}, {Kind: api.Insert, Name: "t", HasSpan: true}, {Kind: api.Insert, Name: "g", Vals: one, Span: api.Span{From: 0, To: 1}}, {Kind: api.Insert, Name: "t", Vals: []api.Value{{}}, HasSpan: true},
		{Kind: api.Update, Name: "g"}, {Kind: api.Update, Name: "t", Sets: []api.Set{{}}}, {Kind: api.Update, Name: "t", Sets: []api.Set{{Col: "k", Val: num(1)}}, Span: api.Span{From: 1}}, {Kind: api.Update, Name: "t", Sets: []api.Set{{Col: "v", Val: str("x")}}, Cols: []string{"v"}},
		{Kind: api.Delete}, {Kind: api.Delete, Name: "G"}, {Kind: api.Delete, Name: "g", Order: "k"}, {Kind: api.Delete, Name: "g", Where: []api.Cond{{Kind: api.Not}}}, {Kind: api.Delete, Name: "t", Where: deep(7)},
		{Kind: api.Select}, {Kind: api.Select, Name: "g", On: [2]string{"k", "k"}}, {Kind: api.Select, Name: "g", Time: api.AsOf, B: 1}, {Kind: api.Select, Name: "t", Time: api.FromTo, A: 1<<40 + 1}, {Kind: api.Select, Name: "t", Where: []api.Cond{compare("g", api.Eq, num(1)), joint(api.And, 0, 0)}},
		{Kind: api.Begin, Name: "t"}, {Kind: api.Commit, A: 1}, {Kind: api.Rollback, Vals: one}, {Kind: api.Prune, A: -1<<40 - 1}, {Kind: api.Prune, A: -1, B: 1}, {Kind: api.Prune, Time: api.AsOf}, {Kind: api.Prune, A: 1 << 62},
		{Kind: api.Insert, Name: "t", Vals: make([]api.Value, 1<<16), HasSpan: true}, {Kind: api.Delete, Name: strings.Repeat("t", 1<<16)}, {Kind: api.Delete, Name: "t", Where: make([]api.Cond, 1<<16)},
	}
	return all
}

func TestP13_2Unsound(t *testing.T) {
	c, _ := full(t)
	for _, s := range unsound() {
		if show.Sound(s) {
			t.Errorf("%+v is sound", s)
		}
		wantStmt(t, c, s, api.ErrForm)
		wantStmt(t, schema.New(), s, api.ErrForm)
		wantStmt(t, nil, s, api.ErrNil)
	}
}

func TestP13_2NilCatalog(t *testing.T) {
	for _, text := range []string{"create table a (b int)", "insert into t values (1) from 0 to 1", "update t set v = 'x'", "delete t", "select * in t", "begin", "commit", "rollback", "prune 0", "prune -1"} {
		wantStmt(t, nil, stmt(t, text), api.ErrNil)
	}
}

func TestP13_2Create(t *testing.T) {
	c, _ := full(t)
	wantTexts(t, c, map[string]api.Errno{
		"create table t (k int)": api.ErrExist, "create table z (a text)": api.ErrExist, "create table a (k int)": api.ErrSpace, "create table a (k int, r int) references g by r": api.ErrSpace,
		"create table a (k int, k int)": api.ErrForm, "create table t (k int, k text)": api.ErrForm, "create table t (k int, r int) references g by r": api.ErrExist,
	})
	two := made(t, "create table t (k int, v text)", "create table u (m text)")
	wantTexts(t, two, map[string]api.Errno{
		"create table a (k int)": api.OK, "create table a (b text, c int, d text, e int)": api.OK, "create table a (k int, r int) references t by r": api.OK, "create table a (k int, r text) references u by r": api.OK,
		"create table a (k int, r int) references g by r": api.ErrNoent, "create table a (k int, r int) references a by r": api.ErrNoent, "create table a (k int, r text) references t by r": api.ErrType, "create table a (k text, s text, r int) references u by r": api.ErrType,
		"create table t (k int, r text) references t by r": api.ErrExist, "create table a (k int, r int, r text) references g by r": api.ErrForm,
	})
	wantStmt(t, two, stmt(t, "create table a (k int)"), api.OK)
	wantStmt(t, two, stmt(t, "create table a (k int)"), api.OK)
	if names := two.Names(); !slices.Equal(names, []string{"t", "u"}) {
		t.Errorf("behind Stmt there are %q", names)
	}
	wantTexts(t, schema.New(), map[string]api.Errno{"create table t (k int)": api.OK, "create table t (k int, r int) references t by r": api.ErrNoent})
}

func TestP13_2Insert(t *testing.T) {
	c, _ := full(t)
	wantTexts(t, c, map[string]api.Errno{
		"insert into t values (1, 'a', 2) from 0 to 5": api.OK, "insert into t values (1, 'a', 2) from -1000 to 1000": api.OK, "insert into u values (-1, '') from 999 to 1000": api.OK,
		"insert into g values (1) from 5 to 5": api.ErrNoent, "insert into g values (1, 'a', 2) from 0 to 5": api.ErrNoent,
		"insert into t values (1, 'a') from 0 to 5": api.ErrType, "insert into t values (1, 'a', 2, 3) from 5 to 5": api.ErrType, "insert into t values (1) from 0 to 5": api.ErrType,
		"insert into t values ('x', 'a', 2) from 0 to 5": api.ErrType, "insert into t values (1, 5, 2) from 5 to 5": api.ErrType, "insert into t values (1, 'a', 'b') from 0 to 5": api.ErrType,
		"insert into t values (1, 'a', 2) from 5 to 5": api.ErrPeriod, "insert into t values (1, 'a', 2) from 6 to 5": api.ErrPeriod, "insert into t values (1, 'a', 2) from -1001 to 5": api.ErrPeriod, "insert into t values (1, 'a', 2) from 0 to 1001": api.ErrPeriod, "insert into t values (1, 'a', 2) from 1000 to 1001": api.ErrPeriod,
	})
}

func TestP13_2UpdateAndDelete(t *testing.T) {
	c, _ := full(t)
	wantTexts(t, c, map[string]api.Errno{
		"update t set v = 'a'": api.OK, "update t set w = 1, v = 'b' from 0 to 5 where (k = 1 and not v = 'x')": api.OK, "update u set n = '' from -1000 to 1000": api.OK,
		"update g set v = 'a' from 5 to 5 where g = 1": api.ErrNoent, "update t set g = 1 from 5 to 5": api.ErrNoent, "update t set n = 'a'": api.ErrNoent,
		"update t set k = 1": api.ErrState, "update t set k = 'x' from 5 to 5": api.ErrState, "update t set v = 'a', k = 1": api.ErrState, "update t set k = 1, g = 1": api.ErrState, "update t set g = 1, k = 1": api.ErrNoent,
		"update t set v = 'a', v = 'b'": api.ErrExist, "update t set v = 'a', v = 1": api.ErrExist, "update t set v = 'a', w = 1, v = 'a' from 5 to 5": api.ErrExist, "update t set v = 1, v = 'a'": api.ErrType, "update t set g = 1, g = 1": api.ErrNoent, "update t set k = 1, k = 1": api.ErrState,
		"update t set v = 1": api.ErrType, "update t set w = 'x' from 5 to 5": api.ErrType, "update t set w = 1, v = 2": api.ErrType, "update t set w = 'x', g = 1": api.ErrType, "update t set w = 'x', k = 1": api.ErrType,
		"update t set v = 'a' from 5 to 5 where g = 1": api.ErrPeriod, "update t set v = 'a' from 0 to 1001": api.ErrPeriod, "update t set v = 'a' from -1001 to 0 where k = 'x'": api.ErrPeriod,
		"update t set v = 'a' where g = 1": api.ErrNoent, "update t set v = 'a' where m = 1": api.ErrNoent, "update t set v = 'a' where k = 'x'": api.ErrType, "update t set v = 'a' from 0 to 1 where (k = 'x' or g = 1)": api.ErrType,
		"delete t": api.OK, "delete t from 0 to 5": api.OK, "delete t where k = 1": api.OK, "delete t from -1000 to -999 where (v = 'x' or k < 3)": api.OK,
		"delete g from 5 to 5 where g = 1": api.ErrNoent, "delete t from 5 to 5 where g = 1": api.ErrPeriod, "delete t from 0 to 1001": api.ErrPeriod, "delete t from 0 to 0": api.ErrPeriod,
		"delete t where g = 1": api.ErrNoent, "delete t where k = 'a'": api.ErrType, "delete t where (g = 1 and k = 'a')": api.ErrNoent, "delete t where (k = 'a' and g = 1)": api.ErrType,
	})
}

func TestP13_2Select(t *testing.T) {
	c, _ := full(t)
	wantTexts(t, c, map[string]api.Errno{
		"select * in t": api.OK, "select * in t join u on k = m as of 3 where (m = 1 and v = 'x') order n": api.OK, "select k in t where w = 1 order v": api.OK, "select k in t join u on k = m where n = 'x' order w": api.OK,
		"select * in g as of -1": api.ErrNoent, "select g in t as of -1": api.ErrNoent, "select * in t join z on g = g as of -1": api.ErrExist, "select * in t join u on k = n as of -1": api.ErrType,
		"select k in t as of -1": api.ErrRange, "select k in t as of 0": api.OK, "select k in t as of 1073741824": api.OK, "select k in t as of 1073741825": api.ErrRange,
		"select k in t from -1 to 5": api.ErrRange, "select k in t from -2 to -1": api.ErrRange, "select k in t from 5 to -1": api.ErrRange, "select k in t from 0 to 1073741824": api.OK, "select k in t from 0 to 1073741825": api.ErrRange, "select k in t from 1073741825 to 0 where g = 1": api.ErrRange,
		"select k in t between -1 and 5": api.ErrRange, "select k in t between 5 and -1": api.ErrRange, "select k in t between 0 and 1073741824": api.OK, "select k in t between 1073741824 and 1073741824": api.OK, "select k in t between 0 and 1073741825": api.ErrRange,
		"select k in t from 5 to 5 where g = 1": api.ErrPeriod, "select k in t from 6 to 5": api.ErrPeriod, "select k in t from 5 to 6": api.OK, "select k in t from 0 to 0": api.ErrPeriod,
		"select k in t between 5 and 5": api.OK, "select k in t between 6 and 5 where g = 1": api.ErrPeriod, "select k in t between 0 and 0": api.OK,
		"select k in t where g = 1 order g": api.ErrNoent, "select k in t where k = 'x' order g": api.ErrType, "select k in t where m = 1": api.ErrNoent, "select k in t join u on k = m where (m = 'x' and g = 1)": api.ErrType,
		"select k in t order g": api.ErrNoent, "select k in t order m": api.ErrNoent, "select k in t join u on k = m order m": api.OK, "select k in t join u on k = m order q": api.ErrNoent, "select k in t order w": api.OK,
	})
}

func TestP13_2Others(t *testing.T) {
	c, _ := full(t)
	for _, c := range []*schema.Catalog{c, schema.New()} {
		wantTexts(t, c, map[string]api.Errno{
			"begin": api.OK, "commit": api.OK, "rollback": api.OK, "prune 0": api.OK, "prune 7": api.OK, "prune 1073741824": api.OK, "prune -1": api.ErrRange, "prune 1073741825": api.ErrRange, "prune -1099511627776": api.ErrRange, "prune 1099511627776": api.ErrRange,
		})
	}
}

// A Create that fitted is answered, behind another one, as schema.Create would answer it.
func TestP13_3Create(t *testing.T) {
	c := made(t, "create table t (k int)")
	a, b, child := stmt(t, "create table a (k int)"), stmt(t, "create table b (k int)"), stmt(t, "create table b (k int, r int) references t by r")
	for _, s := range []api.Stmt{a, b, child} {
		wantStmt(t, c, s, api.OK)
	}
	if e := c.Create(a.Table); e != api.OK {
		t.Fatal(e)
	}
	wantStmt(t, c, a, api.ErrExist)
	wantStmt(t, c, b, api.OK)
	wantStmt(t, c, child, api.OK)
	if e := c.Create(b.Table); e != api.OK {
		t.Fatal(e)
	}
	wantStmt(t, c, child, api.ErrExist)
	wantStmt(t, c, stmt(t, "create table d (k int)"), api.ErrSpace)
}

func TestP3HandedInStays(t *testing.T) {
	c, m := full(t)
	make3 := func() ([]string, []api.Cond, []api.Col) {
		spare := api.Cond{Kind: 77, Kids: []int{7}}
		return []string{"v", "k", "spare"}, []api.Cond{compare("k", api.Eq, num(1)), compare("v", api.Eq, str("x")), joint(api.And, []int{0, 1, 77}[:2]...), spare}, []api.Col{{Name: "k", Kind: api.Int}, {Name: "v", Kind: api.Text}, {Name: "spare"}}
	}
	names, parts, cols := make3()
	s := api.Stmt{Kind: api.Select, Name: "t", Cols: names[:2], Where: parts[:3]}
	wantStmt(t, c, s, api.OK)
	if e := check.Where(cols[:2], parts[:3]); e != api.OK {
		t.Errorf("Where = %d", e)
	}
	for _, text := range []string{"select * in t", "select k, v in t", "select * in t join u on k = m", "select m, n in u"} {
		told, _ := check.Cols(c, stmt(t, text))
		want := slices.Clone(told)
		told = append(told, told...)
		for i := range told {
			told[i] = api.Col{Name: "changed", Kind: 99}
		}
		if again, e := check.Cols(c, stmt(t, text)); e != api.OK || !slices.Equal(again, want) {
			t.Errorf("Cols(%q) = %+v, %d", text, again, e)
		}
	}
	again, moreParts, moreCols := make3()
	if _, e := check.Cols(c, s); e != api.OK || !slices.Equal(names, again) || !reflect.DeepEqual(parts, moreParts) || !slices.Equal(cols, moreCols) {
		t.Error("what was handed in changed")
	}
	if !reflect.DeepEqual(c.Tables(), []api.Table(m)) {
		t.Error("the catalog changed")
	}
}

func TestP13Example(t *testing.T) {
	wantTexts(t, made(t, "create table t (a int)"), map[string]api.Errno{"insert into t values (1) from 5 to 5": api.ErrPeriod, "insert into t values (1) from 5 to 6": api.OK})
}
