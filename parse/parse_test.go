package parse_test

import (
	"reflect"
	"slices"
	"strconv"
	"strings"
	"testing"

	"regesta/api"
	"regesta/parse"
)

// The calls are those of the chapter.
var (
	_ func(string) (api.Stmt, int, api.Errno)   = parse.Stmt
	_ func(string) ([]api.Cond, int, api.Errno) = parse.Where
)

func num(n int64) api.Value  { return api.Value{Kind: api.Int, Num: n} }
func str(s string) api.Value { return api.Value{Kind: api.Text, Str: s} }

func compare(col string, op api.CmpOp, v api.Value) api.Cond {
	return api.Cond{Kind: api.Cmp, Col: col, Op: op, Val: v}
}

func joint(k api.CondKind, kids ...int) api.Cond { return api.Cond{Kind: k, Kids: kids} }

// A form is a text in the one way in which show writes it, and what it says.
type form struct {
	text string
	want api.Stmt
}

type condForm struct {
	text string
	want []api.Cond
}

func condForms() []condForm {
	return []condForm{
		{"a = 1", []api.Cond{compare("a", api.Eq, num(1))}},
		{"by <> 'x'", []api.Cond{compare("by", api.Ne, str("x"))}},
		{"a < -5", []api.Cond{compare("a", api.Lt, num(-5))}},
		{"a <= ''", []api.Cond{compare("a", api.Le, str(""))}},
		{"a9_ > 0", []api.Cond{compare("a9_", api.Gt, num(0))}},
		{"not abcdefgh >= 'it''s'", []api.Cond{compare("abcdefgh", api.Ge, str("it's")), joint(api.Not, 0)}},
		{"not not a = 1", []api.Cond{compare("a", api.Eq, num(1)), joint(api.Not, 0), joint(api.Not, 1)}},
		{"(a = 1 and b = 2)", []api.Cond{compare("a", api.Eq, num(1)), compare("b", api.Eq, num(2)), joint(api.And, 0, 1)}},
		{"(a = 1 or not b < 'x')", []api.Cond{compare("a", api.Eq, num(1)), compare("b", api.Lt, str("x")), joint(api.Not, 1), joint(api.Or, 0, 2)}},
		{"((a = 1 and b = 2) or not (c = 3 or d = 4))", []api.Cond{
			compare("a", api.Eq, num(1)), compare("b", api.Eq, num(2)), joint(api.And, 0, 1),
			compare("c", api.Eq, num(3)), compare("d", api.Eq, num(4)), joint(api.Or, 3, 4), joint(api.Not, 5), joint(api.Or, 2, 6),
		}},
		{"(a = 1 and (b = 2 and c = 3))", []api.Cond{
			compare("a", api.Eq, num(1)), compare("b", api.Eq, num(2)), compare("c", api.Eq, num(3)), joint(api.And, 1, 2), joint(api.And, 0, 3),
		}},
	}
}

// wheres are those that a statement is tried with, none among them.
func wheres() []condForm {
	all := []condForm{{}}
	for i, c := range condForms() {
		if i == 0 || i == 5 || i == 8 {
			all = append(all, condForm{" where " + c.text, c.want})
		}
	}
	return all
}

func createForms() []form {
	one := []api.Col{{Name: "k", Kind: api.Int}}
	two := []api.Col{{Name: "by", Kind: api.Text}, {Name: "v", Kind: api.Int}}
	four := []api.Col{{Name: "a", Kind: api.Int}, {Name: "b", Kind: api.Text}, {Name: "c", Kind: api.Text}, {Name: "d", Kind: api.Int}}
	twice := []api.Col{{Name: "a", Kind: api.Int}, {Name: "a", Kind: api.Text}, {Name: "a", Kind: api.Text}}
	table := func(t api.Table) api.Stmt { return api.Stmt{Kind: api.Create, Table: t} }
	return []form{
		{"create table t (k int)", table(api.Table{Name: "t", Cols: one})},
		{"create table by (by text, v int)", table(api.Table{Name: "by", Cols: two})},
		{"create table t (by text, v int) references by by v", table(api.Table{Name: "t", Cols: two, Parent: "by", Ref: 1})},
		{"create table t (a int, b text, c text, d int)", table(api.Table{Name: "t", Cols: four})},
		{"create table t (a int, b text, c text, d int) references p by b", table(api.Table{Name: "t", Cols: four, Parent: "p", Ref: 1})},
		{"create table t (a int, b text, c text, d int) references t by c", table(api.Table{Name: "t", Cols: four, Parent: "t", Ref: 2})},
		{"create table t (a int, b text, c text, d int) references p by d", table(api.Table{Name: "t", Cols: four, Parent: "p", Ref: 3})},
		{"create table t (a int, a text, a text)", table(api.Table{Name: "t", Cols: twice})},
		{"create table t (a int, a text, a text) references p by a", table(api.Table{Name: "t", Cols: twice, Parent: "p", Ref: 1})},
	}
}

func changeForms() []form {
	all := []form{
		{"insert into t values (1) from 0 to 10", api.Stmt{Kind: api.Insert, Name: "t", Vals: []api.Value{num(1)}, HasSpan: true, Span: api.Span{From: 0, To: 10}}},
		{"insert into by values ('', -7, 'it''s', 'ä', 0) from 5 to -3", api.Stmt{Kind: api.Insert, Name: "by", Vals: []api.Value{str(""), num(-7), str("it's"), str("ä"), num(0)}, HasSpan: true, Span: api.Span{From: 5, To: -3}}},
	}
	heads := []form{
		{"delete t", api.Stmt{Kind: api.Delete, Name: "t"}},
		{"update t set a = 1", api.Stmt{Kind: api.Update, Name: "t", Sets: []api.Set{{Col: "a", Val: num(1)}}}},
		{"update by set by = 'x', b = -2, by = 3", api.Stmt{Kind: api.Update, Name: "by", Sets: []api.Set{{Col: "by", Val: str("x")}, {Col: "b", Val: num(-2)}, {Col: "by", Val: num(3)}}}},
	}
	for _, head := range heads {
		for _, where := range wheres() {
			s := head.want
			s.Where = where.want
			all = append(all, form{head.text + where.text, s})
			s.HasSpan = true
			all = append(all, form{head.text + " from 0 to 0" + where.text, s})
			s.Span = api.Span{From: -1000, To: 1000}
			all = append(all, form{head.text + " from -1000 to 1000" + where.text, s})
		}
	}
	return all
}

func selectForms() []form {
	heads := []form{
		{"select * in t", api.Stmt{Name: "t"}},
		{"select a in by", api.Stmt{Name: "by", Cols: []string{"a"}}},
		{"select by, b, by in t", api.Stmt{Name: "t", Cols: []string{"by", "b", "by"}}},
	}
	times := []form{
		{"", api.Stmt{}},
		{" as of 3", api.Stmt{Time: api.AsOf, A: 3}},
		{" from -1 to 2", api.Stmt{Time: api.FromTo, A: -1, B: 2}},
		{" between 5 and 4", api.Stmt{Time: api.Between, A: 5, B: 4}},
	}
	var all []form
	for _, head := range heads {
		for _, time := range times {
			for _, where := range wheres() {
				for part := range 4 {
					s := head.want
					s.Kind, s.Time, s.A, s.B, s.Where = api.Select, time.want.Time, time.want.A, time.want.B, where.want
					join, order := "", ""
					if part&1 != 0 {
						join = " join by on a = b"
						s.Join, s.On = "by", [2]string{"a", "b"}
					}
					if part&2 != 0 {
						order = " order c"
						s.Order = "c"
					}
					all = append(all, form{head.text + join + time.text + where.text + order, s})
				}
			}
		}
	}
	return all
}

func forms() []form {
	all := append(createForms(), changeForms()...)
	all = append(all, selectForms()...)
	return append(all,
		form{"begin", api.Stmt{Kind: api.Begin}},
		form{"commit", api.Stmt{Kind: api.Commit}},
		form{"rollback", api.Stmt{Kind: api.Rollback}},
		form{"prune 7", api.Stmt{Kind: api.Prune, A: 7}},
		form{"prune -7", api.Stmt{Kind: api.Prune, A: -7}},
	)
}

// split are the tokens of a form's text; none of its strings has a blank, a bracket or a comma.
func split(text string) []string {
	return strings.Fields(strings.NewReplacer("(", " ( ", ")", " ) ", ",", " , ").Replace(text))
}

func wantStmt(t *testing.T, text string, want api.Stmt) {
	t.Helper()
	got, at, e := parse.Stmt(text)
	if e != api.OK || at != 0 || !reflect.DeepEqual(got, want) {
		t.Errorf("Stmt(%q) = %+v, %d, %d, not %+v", text, got, at, e, want)
	}
}

func wantWhere(t *testing.T, text string, want []api.Cond) {
	t.Helper()
	got, at, e := parse.Where(text)
	if e != api.OK || at != 0 || !reflect.DeepEqual(got, want) {
		t.Errorf("Where(%q) = %+v, %d, %d, not %+v", text, got, at, e, want)
	}
}

func wantStmtError(t *testing.T, text string, at int, e api.Errno) {
	t.Helper()
	got, gotAt, gotE := parse.Stmt(text)
	if gotAt != at || gotE != e || !reflect.DeepEqual(got, api.Stmt{}) {
		t.Errorf("Stmt(%q) = %+v, %d, %d, not %d, %d", text, got, gotAt, gotE, at, e)
	}
}

func wantWhereError(t *testing.T, text string, at int, e api.Errno) {
	t.Helper()
	got, gotAt, gotE := parse.Where(text)
	if gotAt != at || gotE != e || len(got) != 0 {
		t.Errorf("Where(%q) = %+v, %d, %d, not %d, %d", text, got, gotAt, gotE, at, e)
	}
}

func TestP11_1Forms(t *testing.T) {
	for _, f := range forms() {
		wantStmt(t, f.text, f.want)
		wantStmt(t, " \t\n\r"+strings.Join(split(f.text), "\n\t")+"  ", f.want)
		// Capitals within a string are others.
		if !strings.Contains(f.text, "'") {
			wantStmt(t, strings.ToUpper(f.text), f.want)
		}
	}
	for _, c := range condForms() {
		wantWhere(t, c.text, c.want)
		wantWhere(t, " "+strings.Join(split(c.text), "\t")+"\r\n", c.want)
		wantStmt(t, "delete t where "+c.text, api.Stmt{Kind: api.Delete, Name: "t", Where: c.want})
	}
	wantWhere(t, "(a=1and not(b<'x'or c>=-5))", []api.Cond{
		compare("a", api.Eq, num(1)), compare("b", api.Lt, str("x")), compare("c", api.Ge, num(-5)), joint(api.Or, 1, 2), joint(api.Not, 3), joint(api.And, 0, 4),
	})
	wantStmt(t, "Insert INTO T values('A (,) b',-1)from 0to 5", api.Stmt{Kind: api.Insert, Name: "t", Vals: []api.Value{str("A (,) b"), num(-1)}, HasSpan: true, Span: api.Span{From: 0, To: 5}})
}

// A string is no word, no sign and no number, whatever its text is.
func TestP11_1StringsAreNoWords(t *testing.T) {
	wantStmt(t, "update t set a = 'where'", api.Stmt{Kind: api.Update, Name: "t", Sets: []api.Set{{Col: "a", Val: str("where")}}})
	wantStmtError(t, "'begin'", 0, api.ErrSyntax)
	wantStmtError(t, "delete 't'", 7, api.ErrSyntax)
	wantStmtError(t, "prune '5'", 6, api.ErrSyntax)
	wantStmtError(t, "select '*' in t", 7, api.ErrSyntax)
	wantStmtError(t, "select a ',' b in t", 9, api.ErrSyntax)
	wantStmtError(t, "delete t 'from' 1 to 2", 9, api.ErrSyntax)
	wantStmtError(t, "delete t 'where' a = 1", 9, api.ErrSyntax)
	wantStmtError(t, "create table t (a 'int')", 18, api.ErrSyntax)
	wantWhereError(t, "a '=' 1", 2, api.ErrSyntax)
	wantWhereError(t, "'a' = 1", 0, api.ErrSyntax)
	wantWhereError(t, "'not' a = 1", 0, api.ErrSyntax)
	wantWhereError(t, "(a = 1 'and' b = 2)", 7, api.ErrSyntax)
}

func TestP11_1Names(t *testing.T) {
	keys := strings.Fields("create table int text references insert into values from to update set where delete select in join on as of between and order begin commit rollback prune or not")
	wrong := append(keys, "abcdefghi", "references", "rollbacks", "5", "'x'", "(", "*", "=")
	places := []string{
		"create table NAME ( a int , b int )", "create table t ( NAME int )", "create table t ( a int , NAME int )",
		"create table t ( a int , b int ) references NAME by b", "create table t ( a int , b int ) references p by NAME",
		"insert into NAME values ( 1 ) from 0 to 1", "update NAME set a = 1", "update t set NAME = 1", "update t set a = 1 , NAME = 1", "delete NAME",
		"select NAME in t", "select a , NAME in t", "select * in NAME", "select * in t join NAME on a = b", "select * in t join u on NAME = b", "select * in t join u on a = NAME",
		"select * in t order NAME", "delete t where NAME = 1", "delete t where ( a = 1 and NAME = 1 )", "delete t where not NAME = 1",
	}
	for _, place := range places {
		at := strings.Index(place, "NAME")
		for _, w := range wrong {
			text := strings.Replace(place, "NAME", w, 1)
			got, gotAt, e := parse.Stmt(text)
			// What else than a name may come there goes on with something else.
			if w == "*" && strings.HasPrefix(place, "select NAME") || (w == "not" || w == "(") && strings.Contains(place, "NAME = 1") && strings.Contains(place, "where") {
				continue
			}
			if gotAt != at || e != api.ErrSyntax || !reflect.DeepEqual(got, api.Stmt{}) {
				t.Errorf("Stmt(%q) = %+v, %d, %d", text, got, gotAt, e)
			}
		}
		for _, right := range []string{"by", "a", "abcdefgh", "z9_", "x_", "tables"} {
			text := strings.Replace(place, "NAME", right, 1)
			_, gotAt, e := parse.Stmt(text)
			// The last name of a Create must be a column's.
			if strings.HasSuffix(place, "p by NAME") {
				if gotAt != at || e != api.ErrSyntax {
					t.Errorf("Stmt(%q) = %d, %d", text, gotAt, e)
				}
			} else if gotAt != 0 || e != api.OK {
				t.Errorf("Stmt(%q) = %d, %d", text, gotAt, e)
			}
		}
	}
	// Words that are longer than all tokens are wrong ahead of all.
	wantStmtError(t, "delete create abcdefghijklm", 14, api.ErrSyntax)
}

func TestP11_1Numbers(t *testing.T) {
	places := []string{
		"prune N", "insert into t values ( 1 ) from N to 1", "insert into t values ( 1 ) from 0 to N", "insert into t values ( N ) from 0 to 1", "insert into t values ( 'x' , N ) from 0 to 1",
		"update t set a = N", "update t set a = 1 , b = N", "update t set a = 1 from N to 1", "update t set a = 1 from 0 to N", "delete t from N to 1", "delete t from 0 to N",
		"select * in t as of N", "select * in t from N to 1", "select * in t from 0 to N", "select * in t between N and 1", "select * in t between 0 and N",
		"delete t where a = N", "delete t where ( not a = 1 or b < N )",
	}
	for _, place := range places {
		at := strings.Index(place, "N")
		for _, n := range []string{"0", "-1", "1", "1099511627775", "1099511627776", "-1099511627775", "-1099511627776"} {
			text := strings.Replace(place, "N", n, 1)
			s, gotAt, e := parse.Stmt(text)
			if e != api.OK || gotAt != 0 || !numbersOf(s)[n] {
				t.Errorf("Stmt(%q) = %+v, %d, %d", text, s, gotAt, e)
			}
		}
		for _, n := range []string{"1099511627777", "-1099511627777", "9223372036854775807", "-9223372036854775808", "9223372036854775808", "007", "-0", "- 1", "a", "to", "*", "("} {
			wantStmtError(t, strings.Replace(place, "N", n, 1), at, api.ErrSyntax)
		}
		if !strings.Contains(place, "= N") && !strings.Contains(place, "< N") && !strings.Contains(place, "N )") {
			wantStmtError(t, strings.Replace(place, "N", "'1'", 1), at, api.ErrSyntax)
		}
	}
}

// numbersOf are all that a statement holds.
func numbersOf(s api.Stmt) map[string]bool {
	all := map[string]bool{}
	add := func(n int64) { all[strconv.FormatInt(n, 10)] = true }
	for _, n := range []int{s.A, s.B, s.Span.From, s.Span.To} {
		add(int64(n))
	}
	for _, v := range s.Vals {
		add(v.Num)
	}
	for _, x := range s.Sets {
		add(x.Val.Num)
	}
	for _, c := range s.Where {
		add(c.Val.Num)
	}
	return all
}

func TestP11_1StringsOfRightTexts(t *testing.T) {
	for _, right := range []string{"", "a", "abcdefgh", "ääääääää", "it''s", "''''''''''''''''", " ", "\U0001F600\U0001F600\U0001F600\U0001F600\U0001F600\U0001F600\U0001F600\U0001F600", "\ufffd"} {
		want := str(strings.ReplaceAll(right, "''", "'"))
		wantStmt(t, "update t set a = '"+right+"'", api.Stmt{Kind: api.Update, Name: "t", Sets: []api.Set{{Col: "a", Val: want}}})
		wantWhere(t, "a = '"+right+"'", []api.Cond{compare("a", api.Eq, want)})
	}
	for _, wrong := range []string{"abcdefghi", "äääääääää", "\n", "\x00", "\x7f", "\xff", "a\xc3"} {
		wantStmtError(t, "update t set a = '"+wrong+"'", 17, api.ErrSyntax)
		wantStmtError(t, "insert into t values ( 1, '"+wrong+"' ) from 0 to 1", 26, api.ErrSyntax)
		wantWhereError(t, "a = '"+wrong+"'", 4, api.ErrSyntax)
	}
	wantWhereError(t, "a = 'b", 4, api.ErrSyntax)
	wantWhereError(t, "a = b", 4, api.ErrSyntax)
}

func TestP11_1Columns(t *testing.T) {
	wantStmtError(t, "create table t (a int, b int, c int, d int, e int)", 44, api.ErrSyntax)
	wantStmtError(t, "create table t (a int, b int, c int, d int,   e text, f int)", 46, api.ErrSyntax)
	wantStmtError(t, "create table t (a int, b int, c int, d int, e int) references p by e", 44, api.ErrSyntax)
	// What is named ahead of it is told first: what does not go on, and the last name.
	wantStmtError(t, "create table t (a int, b int, c int, d int, e int", 49, api.ErrSyntax)
	wantStmtError(t, "create table t (a int, b int, c int, d int, e int,", 50, api.ErrSyntax)
	wantStmtError(t, "create table t (a int, b int, c int, d int, e in)", 46, api.ErrSyntax)
	wantStmtError(t, "create table t (a int, b int, c int, d int, e int) x", 51, api.ErrSyntax)
	wantStmtError(t, "create table t (a int, b int, c int, d int, e int) references p by a", 67, api.ErrSyntax)
	wantStmtError(t, "create table t (a int, b int, c int, d int, e int) references p by x", 67, api.ErrSyntax)
	wantStmtError(t, "create table t ()", 16, api.ErrSyntax)
	wantStmtError(t, "create table t (a int,)", 22, api.ErrSyntax)
	wantStmtError(t, "create table t (a)", 17, api.ErrSyntax)
	wantStmtError(t, "create table t (a int b int)", 22, api.ErrSyntax)
}

func TestP11_1LastNameOfCreate(t *testing.T) {
	wantStmtError(t, "create table t (a int) references p by a", 39, api.ErrSyntax)
	wantStmtError(t, "create table t (a int, b int) references p by a", 46, api.ErrSyntax)
	wantStmtError(t, "create table t (a int, b int) references p by c", 46, api.ErrSyntax)
	wantStmtError(t, "create table t (a int, b int) references p by  p ", 47, api.ErrSyntax)
	wantStmtError(t, "create table t (a int, b int) references p by t", 46, api.ErrSyntax)
	wantStmtError(t, "create table t (by int, b int) references p by by", 47, api.ErrSyntax)
	wantStmt(t, "create table t (a int, by int) references by by by", api.Stmt{Kind: api.Create, Table: api.Table{
		Name: "t", Cols: []api.Col{{Name: "a", Kind: api.Int}, {Name: "by", Kind: api.Int}}, Parent: "by", Ref: 1,
	}})
	wantStmt(t, "create table t (a int, b int) references p by B", api.Stmt{Kind: api.Create, Table: api.Table{
		Name: "t", Cols: []api.Col{{Name: "a", Kind: api.Int}, {Name: "b", Kind: api.Int}}, Parent: "p", Ref: 1,
	}})
	// What goes on behind it is told first.
	wantStmtError(t, "create table t (a int) references p by a b", 41, api.ErrSyntax)
	wantStmtError(t, "create table t (a int, b int) references p b", 43, api.ErrSyntax)
	wantStmtError(t, "create table t (a int, b int) references p by", 45, api.ErrSyntax)
	wantStmtError(t, "create table t (a int, b int) references by b", 44, api.ErrSyntax)
}

func TestP11_1LexErrors(t *testing.T) {
	for _, f := range []func(t *testing.T, text string, at int, e api.Errno){wantStmtError, wantWhereError} {
		f(t, strings.Repeat(" ", api.MaxText+1), 0, api.ErrSpace)
		f(t, "begin"+strings.Repeat("\xff", api.MaxText), 0, api.ErrSpace)
		f(t, strings.Repeat("a ", api.MaxTokens)+" b", 2*api.MaxTokens+1, api.ErrSpace)
		// They come ahead of what the words do not say.
		f(t, "delete delete ä", 14, api.ErrSyntax)
		f(t, "a = = ;", 6, api.ErrSyntax)
		f(t, "x _", 2, api.ErrSyntax)
		f(t, "y 007", 2, api.ErrSyntax)
		f(t, "z 'abcdefghi'", 2, api.ErrSyntax)
		f(t, "z 'a", 2, api.ErrSyntax)
		f(t, "\x00", 0, api.ErrSyntax)
		if t.Failed() {
			return
		}
	}
	wantStmt(t, strings.Repeat(" ", api.MaxText-5)+"begin", api.Stmt{Kind: api.Begin})
	wantStmtError(t, strings.Repeat(" ", api.MaxText-4)+"begin", 0, api.ErrSpace)
	wantWhereError(t, "not not not not not not not a = 1 ;", 34, api.ErrSyntax)
}

func TestP11_1EndsTooEarly(t *testing.T) {
	for _, text := range []string{"", " ", "\n\t \r", strings.Repeat(" ", api.MaxText)} {
		wantStmtError(t, text, len(text), api.ErrSyntax)
		wantWhereError(t, text, len(text), api.ErrSyntax)
	}
	for _, text := range []string{"delete", "select * in t where not", "prune", "insert into t values (1", "delete t from 3 to", "select * in t as", "create table t (a int"} {
		for _, more := range []string{"", " ", "\n", "  \t "} {
			wantStmtError(t, text+more, len(text+more), api.ErrSyntax)
		}
	}
	for _, text := range []string{"a", "a =", "not", "(", "(a = 1", "(a = 1 and", "(a = 1 or b = 2", "(not a <> 'x' or not (a = 1 and b = 2)"} {
		for _, more := range []string{"", " ", "\n", "  \t "} {
			wantWhereError(t, text+more, len(text+more), api.ErrSyntax)
		}
	}
}

func TestP11_1Conditions(t *testing.T) {
	for i, sign := range strings.Fields("= <> < <= > >=") {
		wantWhere(t, "a"+sign+"-1", []api.Cond{compare("a", api.Eq+api.CmpOp(i), num(-1))})
	}
	wantWhereError(t, "a * 1", 2, api.ErrSyntax)
	wantWhereError(t, "a == 1", 3, api.ErrSyntax)
	wantWhereError(t, "a < > 1", 4, api.ErrSyntax)
	wantWhereError(t, "1 = a", 0, api.ErrSyntax)
	wantWhereError(t, "a = b", 4, api.ErrSyntax)
	wantWhereError(t, "a", 1, api.ErrSyntax)
	// And, and or, ask for a bracket; a bracket asks for one of them.
	wantWhereError(t, "a = 1 and b = 2", 6, api.ErrSyntax)
	wantWhereError(t, "a = 1 or b = 2", 6, api.ErrSyntax)
	wantWhereError(t, "not a = 1 and b = 2", 10, api.ErrSyntax)
	wantWhereError(t, "(a = 1)", 6, api.ErrSyntax)
	wantWhereError(t, "(not a = 1)", 10, api.ErrSyntax)
	wantWhereError(t, "((a = 1 and b = 2))", 18, api.ErrSyntax)
	wantWhereError(t, "(a = 1 and b = 2 and c = 3)", 17, api.ErrSyntax)
	wantWhereError(t, "(a = 1 and b = 2 or c = 3)", 17, api.ErrSyntax)
	wantWhereError(t, "(a = 1, b = 2)", 6, api.ErrSyntax)
	wantWhereError(t, "()", 1, api.ErrSyntax)
	wantWhereError(t, "(a = 1 and)", 10, api.ErrSyntax)
	wantWhereError(t, "a not = 1", 2, api.ErrSyntax)
	wantWhereError(t, "where a = 1", 0, api.ErrSyntax)
	wantWhereError(t, "delete t where a = 1", 0, api.ErrSyntax)
	wantStmtError(t, "a = 1", 0, api.ErrSyntax)
	wantStmtError(t, "delete t where", 14, api.ErrSyntax)
	wantStmtError(t, "delete t where a = 1 and b = 2", 21, api.ErrSyntax)
	wantStmtError(t, "select * in t where (a = 1 or b = 2 order c", 36, api.ErrSyntax)
}

func TestP11_3GoesOnBehind(t *testing.T) {
	tokens := alphabet()
	for _, f := range forms() {
		whole := split(f.text)
		for _, token := range tokens {
			agree(t, "STMT", append(slices.Clip(whole), token))
		}
		wantStmtError(t, f.text+" ) ", len(f.text)+1, api.ErrSyntax)
		wantStmtError(t, f.text+" begin", len(f.text)+1, api.ErrSyntax)
		if t.Failed() {
			return
		}
	}
	wantStmtError(t, "begin now", 6, api.ErrSyntax)
	wantStmtError(t, "begin begin", 6, api.ErrSyntax)
	wantStmtError(t, "prune 5 6", 8, api.ErrSyntax)
	wantStmtError(t, "delete t where a = 1 from 0 to 1", 21, api.ErrSyntax)
	wantStmtError(t, "delete t order a", 9, api.ErrSyntax)
	wantStmtError(t, "select * in t order a where a = 1", 22, api.ErrSyntax)
	wantStmtError(t, "select * in t order a, b", 21, api.ErrSyntax)
	wantStmtError(t, "select * in t as of 3 from 0 to 1", 22, api.ErrSyntax)
	wantStmtError(t, "select * in t as of 3 join u on a = b", 22, api.ErrSyntax)
	wantStmtError(t, "select * in t join u on a = b join v on a = b", 30, api.ErrSyntax)
	wantStmtError(t, "select *, a in t", 8, api.ErrSyntax)
	wantStmtError(t, "insert into t values (1) from 0 to 1 where a = 1", 37, api.ErrSyntax)
	wantStmtError(t, "insert into t values (1)", 24, api.ErrSyntax)
	for _, c := range condForms() {
		for _, more := range []string{"a", "and", ")", "1", "where", "order"} {
			wantWhereError(t, c.text+" "+more, len(c.text)+1, api.ErrSyntax)
		}
	}
}

func TestP1Texts(t *testing.T) {
	pieces := []string{"a", "not", "(", ")", "and", "=", "1", "'x'", "delete", "from", "to", "where", ",", "select", "*", "in", "\xff", "'"}
	texts := []string{""}
	for range 4 {
		var next []string
		for _, front := range texts {
			for _, p := range pieces {
				text := front + p + " "
				if _, at, _ := parse.Stmt(text); at < 0 || at > len(text) {
					t.Fatalf("Stmt(%q) at %d", text, at)
				}
				if _, at, _ := parse.Where(text); at < 0 || at > len(text) {
					t.Fatalf("Where(%q) at %d", text, at)
				}
				next = append(next, text)
			}
		}
		texts = next
	}
	for a := range 256 {
		for b := range 256 {
			text := string([]byte{byte(a), byte(b)})
			wantStmtErrorSomewhere(t, text)
		}
	}
}

func wantStmtErrorSomewhere(t *testing.T, text string) {
	t.Helper()
	if s, _, e := parse.Stmt(text); e != api.ErrSyntax || !reflect.DeepEqual(s, api.Stmt{}) {
		t.Fatalf("Stmt(%q) = %+v, %d", text, s, e)
	}
	if l, _, e := parse.Where(text); e != api.ErrSyntax || len(l) != 0 {
		t.Fatalf("Where(%q) = %+v, %d", text, l, e)
	}
}

// A stretch is where a list lies, with its spare room.
type stretch struct{ from, to uintptr }

// lists are all that a value has, however deep.
func lists(v reflect.Value) []stretch {
	var all []stretch
	switch v.Kind() {
	case reflect.Struct:
		for i := range v.NumField() {
			all = append(all, lists(v.Field(i))...)
		}
	case reflect.Slice:
		if v.Cap() > 0 {
			all = append(all, stretch{v.Pointer(), v.Pointer() + uintptr(v.Cap())*v.Type().Elem().Size()})
		}
		for i := range v.Len() {
			all = append(all, lists(v.Index(i))...)
		}
	}
	return all
}

func TestP3ListsAreTheCallers(t *testing.T) {
	for _, f := range forms() {
		a, _, _ := parse.Stmt(f.text)
		b, _, _ := parse.Stmt(f.text)
		all := append(lists(reflect.ValueOf(a)), lists(reflect.ValueOf(b))...)
		slices.SortFunc(all, func(x, y stretch) int {
			if x.from < y.from {
				return -1
			}
			return 1
		})
		for i := 1; i < len(all); i++ {
			if all[i-1].to > all[i].from {
				t.Fatalf("two lists of Stmt(%q) lie in one", f.text)
			}
		}
		spoil(a)
		if c, _, _ := parse.Stmt(f.text); !reflect.DeepEqual(b, f.want) || !reflect.DeepEqual(c, f.want) {
			t.Fatalf("Stmt(%q) hangs on what became of another answer", f.text)
		}
	}
	a, _, _ := parse.Where("(a = 1 and b = 2)")
	a[2].Kids[0], a[0].Col = 9, "z"
	wantWhere(t, "(a = 1 and b = 2)", []api.Cond{compare("a", api.Eq, num(1)), compare("b", api.Eq, num(2)), joint(api.And, 0, 1)})
}

func spoil(s api.Stmt) {
	clear(s.Table.Cols)
	clear(s.Vals)
	clear(s.Sets)
	clear(s.Cols)
	for i := range s.Where {
		clear(s.Where[i].Kids)
		s.Where[i] = api.Cond{}
	}
}
