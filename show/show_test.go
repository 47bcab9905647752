package show_test

import (
	"reflect"
	"strings"
	"testing"

	"regesta/api"
	"regesta/parse"
	"regesta/show"
)

// The calls are those of the chapter.
var (
	_ func(api.Stmt) (string, api.Errno)   = show.Print
	_ func([]api.Cond) (string, api.Errno) = show.Cond
	_ func(api.Stmt) bool                  = show.Sound
	_ func(a, b api.Stmt) bool             = show.Same
	_ func(api.CmpOp) string               = show.Op
)

func num(n int64) api.Value  { return api.Value{Kind: api.Int, Num: n} }
func str(s string) api.Value { return api.Value{Kind: api.Text, Str: s} }

func compare(col string, op api.CmpOp, v api.Value) api.Cond {
	return api.Cond{Kind: api.Cmp, Col: col, Op: op, Val: v}
}

func joint(k api.CondKind, kids ...int) api.Cond { return api.Cond{Kind: k, Kids: kids} }

func conditions() []string {
	return []string{
		"a = 1", "by <> 'x'", "a < -5", "a <= ''", "a9_ > 1099511627776", "abcdefgh >= 'it''s (,)'",
		"not a = 1", "not not not not not a = -1099511627776", "(a = 1 and b = 2)", "(a = 1 or b = 2)",
		"(a = 1 and not b = 'x')", "not (a = 1 or b = 2)", "((a = 1 and b = 2) or (c = 3 and d = 4))", "(not not a = 1 or (b = 2 and not (c = 3 or d = 4)))",
	}
}

// texts are statements' texts, each part there and not there.
func texts() []string {
	all := []string{
		"create table t (k int)", "create table by (a int, b text, c text, d int)", "create table t (k int, by text) references by by by", "create table t (a text, b int, c int, d int) references p by d",
		"insert into t values (1) from 0 to 5", "insert into t values ('it''s', -3, '', 'a (b, c') from -1099511627776 to 1099511627776",
		"begin", "commit", "rollback", "prune 0", "prune -7", "prune 1099511627776",
	}
	for _, head := range []string{"delete t", "update t set a = 1", "update by set by = 'x', b = -2, c = ' '"} {
		for _, span := range []string{"", " from 0 to 0", " from -3 to 9"} {
			all = append(all, head+span)
			for _, c := range conditions() {
				all = append(all, head+span+" where "+c)
			}
		}
	}
	for _, head := range []string{"select * in t", "select a in by", "select by, b, by in t"} {
		for _, join := range []string{"", " join u on a = by"} {
			for _, time := range []string{"", " as of 3", " as of 0", " from 1 to 2", " from 0 to 0", " between -3 and 5"} {
				for _, order := range []string{"", " order c"} {
					all = append(all, head+join+time+order)
					for _, c := range conditions() {
						all = append(all, head+join+time+" where "+c+order)
					}
				}
			}
		}
	}
	return all
}

func stmt(t *testing.T, text string) api.Stmt {
	t.Helper()
	s, at, e := parse.Stmt(text)
	if e != api.OK {
		t.Fatalf("Stmt(%q): %d, %d", text, at, e)
	}
	return s
}

func wantPrint(t *testing.T, s api.Stmt, want string) {
	t.Helper()
	if got, e := show.Print(s); got != want || e != api.OK || !show.Sound(s) {
		t.Errorf("Print(%+v) = %q, %d, not %q", s, got, e, want)
	}
}

func wantUnsound(t *testing.T, s api.Stmt) {
	t.Helper()
	if got, e := show.Print(s); got != "" || e != api.ErrForm || show.Sound(s) {
		t.Errorf("Print(%+v) = %q, %d", s, got, e)
	}
}

func wantCond(t *testing.T, l []api.Cond, want string) {
	t.Helper()
	if got, e := show.Cond(l); got != want || e != api.OK {
		t.Errorf("Cond(%+v) = %q, %d, not %q", l, got, e, want)
	}
}

func wantNoCond(t *testing.T, l []api.Cond) {
	t.Helper()
	if got, e := show.Cond(l); got != "" || e != api.ErrForm {
		t.Errorf("Cond(%+v) = %q, %d", l, got, e)
	}
	wantUnsoundIfAny(t, l)
}

// A statement's condition may be left out, so that without parts it is sound.
func wantUnsoundIfAny(t *testing.T, l []api.Cond) {
	t.Helper()
	if len(l) > 0 {
		wantUnsound(t, api.Stmt{Kind: api.Delete, Name: "t", Where: l})
	}
}

func TestP12_1Op(t *testing.T) {
	signs := []string{"", "=", "<>", "<", "<=", ">", ">="}
	for o := range 256 {
		want := ""
		if o < len(signs) {
			want = signs[o]
		}
		if got := show.Op(api.CmpOp(o)); got != want {
			t.Errorf("Op(%d) = %q", o, got)
		}
	}
}

// P12.2 and P12.3, too: of each text the statement is printed, and read again.
func TestP12_1Print(t *testing.T) {
	for _, text := range texts() {
		s := stmt(t, text)
		wantPrint(t, s, text)
		again := stmt(t, text)
		if !reflect.DeepEqual(again, s) || !show.Same(again, s) {
			t.Errorf("%q says %+v, then %+v", text, s, again)
		}
	}
	for text, want := range map[string]string{
		"DELETE  T\nFROM 3 TO 9 WHERE(A=1AND NOT B='X')":            "delete t from 3 to 9 where (a = 1 and not b = 'X')",
		"insert into t values(1,'a')from 0to 1":                     "insert into t values (1, 'a') from 0 to 1",
		"create table t(a int,b text)references p by b":             "create table t (a int, b text) references p by b",
		"select a,b in t join u on a=b where not(a<1or a>2)order c": "select a, b in t join u on a = b where not (a < 1 or a > 2) order c",
		"update t set a=1,b='('where((a=1and b=2)or c='')":          "update t set a = 1, b = '(' where ((a = 1 and b = 2) or c = '')",
		"select*in t":       "select * in t",
		" \t prune\n-5 \r ": "prune -5",
	} {
		wantPrint(t, stmt(t, text), want)
	}
}

func TestP12_1Cond(t *testing.T) {
	for _, text := range conditions() {
		for _, written := range []string{text, "  " + strings.ReplaceAll(text, " ", "\n") + " "} {
			if strings.Contains(text, "(,)") && written != text {
				continue
			}
			l, at, e := parse.Where(written)
			if e != api.OK {
				t.Fatalf("Where(%q): %d, %d", written, at, e)
			}
			wantCond(t, l, text)
		}
	}
	one := compare("a", api.Eq, num(1))
	two := compare("b", api.Lt, str("x"))
	wantCond(t, []api.Cond{one, two, joint(api.Not, 1), joint(api.Or, 0, 2)}, "(a = 1 or not b < 'x')")
	wantCond(t, []api.Cond{{Kind: api.Cmp, Col: "a", Op: api.Eq, Val: num(1), Kids: []int{}}}, "a = 1")
	for _, wrong := range [][]api.Cond{
		nil, {}, {{}}, {joint(api.Not)}, {joint(api.And)}, {joint(api.Or)},
		{joint(api.Not, 0)}, {joint(api.Not, 1)}, {joint(api.Not, -1)}, {joint(api.And, 0, 0)}, {joint(api.Or, -1, 5)},
		{one, two}, {one, one}, {one, joint(api.Not, 0), one}, {one, two, joint(api.Not, 1)}, {one, two, joint(api.Not, 0)},
		{one, two, joint(api.And, 1, 0)}, {one, two, joint(api.And, 0, 0)}, {one, joint(api.And, 0, 0)}, {one, two, joint(api.And, 0)}, {one, two, joint(api.And, 0, 1, 1)}, {one, joint(api.And, 0)},
		{one, joint(api.Not, 0, 0)}, {one, joint(api.Not, 1)}, {one, joint(api.Not, 2)}, {joint(api.Not, 1), one}, {one, joint(api.Not, 2), joint(api.Not, 1)},
		{{Kind: api.Cmp, Col: "a", Op: api.Eq, Val: num(1), Kids: []int{0}}},
		{one, {Kind: api.Not, Kids: []int{0}, Col: "a"}}, {one, {Kind: api.Not, Kids: []int{0}, Op: api.Eq}}, {one, {Kind: api.Not, Kids: []int{0}, Val: num(0)}}, {one, {Kind: api.Not, Kids: []int{0}, Val: api.Value{Num: 1}}},
		{one, joint(api.Cmp, 0)}, {one, joint(99, 0)}, {one, two, joint(99, 0, 1)}, {one, two, joint(api.NoCond, 0, 1)},
		{compare("", api.Eq, num(1))}, {compare("A", api.Eq, num(1))}, {compare("to", api.Eq, num(1))}, {compare("abcdefghi", api.Eq, num(1))}, {compare("not a", api.Eq, num(1))}, {compare(" a", api.Eq, num(1))}, {compare("\xff", api.Eq, num(1))},
		{compare("a", api.NoCmp, num(1))}, {compare("a", 7, num(1))}, {compare("a", 255, num(1))},
		{compare("a", api.Eq, api.Value{})}, {compare("a", api.Eq, api.Value{Kind: 3})}, {compare("a", api.Eq, api.Value{Kind: api.Int, Str: "x"})}, {compare("a", api.Eq, api.Value{Kind: api.Text, Num: 1})},
		{compare("a", api.Eq, str("abcdefghi"))}, {compare("a", api.Eq, str("\n"))}, {compare("a", api.Eq, str("\xff"))}, {compare("a", api.Eq, num(1<<40+1))}, {compare("a", api.Eq, num(-1<<40-1))}, {compare("a", api.Eq, num(-1<<63))},
		{compare("(a = 1 and b", api.Eq, num(1))}, {compare("a = 1 or b", api.Eq, num(1))},
	} {
		wantNoCond(t, wrong)
	}
}

// Those that no text says, as the chapter names them.
func TestP12_1Unsound(t *testing.T) {
	insert := api.Stmt{Kind: api.Insert, Name: "t", Vals: []api.Value{num(1)}, HasSpan: true}
	wantPrint(t, insert, "insert into t values (1) from 0 to 0")
	set := []api.Set{{Col: "a", Val: num(1)}}
	cols := []api.Col{{Name: "a", Kind: api.Int}, {Name: "b", Kind: api.Text}}
	for _, wrong := range []api.Stmt{
		{}, {Kind: 10}, {Kind: 255}, {Kind: api.Create}, {Kind: api.Insert}, {Kind: api.Update}, {Kind: api.Delete}, {Kind: api.Select},
		{Kind: api.Insert, Name: "t"}, {Kind: api.Insert, Name: "t", HasSpan: true}, {Kind: api.Insert, Name: "t", Vals: []api.Value{num(1)}}, {Kind: api.Insert, Name: "t", Vals: []api.Value{{}}, HasSpan: true},
		{Kind: api.Update, Name: "t"}, {Kind: api.Update, Name: "t", Sets: set, Span: api.Span{From: 0, To: 1}}, {Kind: api.Update, Sets: set},
		{Kind: api.Delete, Name: "t", Span: api.Span{From: 1, To: 0}}, {Kind: api.Delete, Name: "t", Sets: set}, {Kind: api.Delete, Name: "t", Order: "a"}, {Kind: api.Delete, Name: "t", Time: api.AsOf},
		{Kind: api.Delete, Name: "t where a = 1"}, {Kind: api.Delete, Name: " t"}, {Kind: api.Delete, Name: "T"}, {Kind: api.Delete, Name: "from"},
		{Kind: api.Select, Name: "t", Cols: []string{"*"}}, {Kind: api.Select, Name: "t", Cols: []string{""}}, {Kind: api.Select, Name: "t", Cols: []string{"a, b"}}, {Kind: api.Select, Name: "t", A: 1}, {Kind: api.Select, Name: "t", B: 1},
		{Kind: api.Select, Name: "t", Time: api.AsOf, B: 1}, {Kind: api.Select, Name: "t", Time: 4}, {Kind: api.Select, Name: "t", Time: 255, A: 1}, {Kind: api.Select, Name: "t", Time: api.AsOf, A: 1<<40 + 1}, {Kind: api.Select, Name: "t", Time: api.FromTo, B: -1<<40 - 1},
		{Kind: api.Select, Name: "t", HasSpan: true}, {Kind: api.Select, Name: "t", Time: api.FromTo, HasSpan: true},
		{Kind: api.Select, Name: "t", On: [2]string{"a", "b"}}, {Kind: api.Select, Name: "t", Join: "u"}, {Kind: api.Select, Name: "t", Join: "u", On: [2]string{"a", ""}}, {Kind: api.Select, Name: "t join u on a = b"},
		{Kind: api.Begin, Name: "t"}, {Kind: api.Commit, A: 1}, {Kind: api.Rollback, HasSpan: true}, {Kind: api.Begin, Where: []api.Cond{compare("a", api.Eq, num(1))}},
		{Kind: api.Prune, B: 1}, {Kind: api.Prune, A: 1<<40 + 1}, {Kind: api.Prune, A: -1 << 63}, {Kind: api.Prune, Name: "t"},
		{Kind: api.Create, Table: api.Table{Name: "t"}}, {Kind: api.Create, Name: "t", Table: api.Table{Name: "t", Cols: cols}}, {Kind: api.Create, Table: api.Table{Name: "t", Cols: cols, Ref: 1}}, {Kind: api.Create, Table: api.Table{Name: "t", Cols: cols, Parent: "p"}},
		{Kind: api.Create, Table: api.Table{Name: "t", Cols: cols, Parent: "p", Ref: 2}}, {Kind: api.Create, Table: api.Table{Name: "t", Cols: cols, Parent: "p", Ref: -1}}, {Kind: api.Create, Table: api.Table{Name: "t", Cols: []api.Col{{Name: "a"}}}}, {Kind: api.Create, Table: api.Table{Name: "t", Cols: []api.Col{{Name: "a", Kind: 3}}}},
		{Kind: api.Create, Table: api.Table{Name: "t", Cols: append(cols, cols...), Parent: "p", Ref: 3}}, {Kind: api.Create, Table: api.Table{Name: "t", Cols: append(cols, append(cols, cols...)...)}},
	} {
		wantUnsound(t, wrong)
	}
}

// Without a bound a list in which each part stands twice in the next one would be gone through for ages.
func TestP1EndsSoon(t *testing.T) {
	one := compare("a", api.Eq, num(1))
	twice := []api.Cond{one}
	chain := []api.Cond{one}
	for i := range 200 {
		twice = append(twice, joint(api.And, i, i))
	}
	for i := range 1 << 17 {
		chain = append(chain, joint(api.Not, i))
	}
	wantNoCond(t, twice)
	wantNoCond(t, chain)
	wantNoCond(t, []api.Cond{joint(api.Not, 1), joint(api.Not, 0)})
	wantNoCond(t, []api.Cond{joint(api.And, 2, 2), joint(api.Or, 0, 2), joint(api.And, 0, 1)})
	long := strings.Repeat("a", 1<<17)
	wantUnsound(t, api.Stmt{Kind: api.Delete, Name: long})
	wantUnsound(t, api.Stmt{Kind: api.Insert, Name: "t", Vals: make([]api.Value, 1<<17), HasSpan: true})
	wantUnsound(t, api.Stmt{Kind: api.Select, Name: "t", Cols: make([]string, 1<<17)})
	wantNoCond(t, []api.Cond{compare(long, api.Eq, str(long))})
}

func insertOf(name string, count, to int) api.Stmt {
	s := api.Stmt{Kind: api.Insert, Name: name, HasSpan: true, Span: api.Span{To: to}}
	for range count {
		s.Vals = append(s.Vals, str("abcdefgh"))
	}
	return s
}

func TestP12_1LongStatements(t *testing.T) {
	fits := insertOf("tttttttt", 30, 1)
	want := "insert into tttttttt values (" + strings.Repeat("'abcdefgh', ", 29) + "'abcdefgh') from 0 to 1"
	if len(want) != api.MaxText {
		t.Fatal(len(want))
	}
	wantPrint(t, fits, want)
	wantUnsound(t, insertOf("tttttttt", 30, 10))
	// It is parsed, but its own text is longer than may be.
	tight := "insert into t values(" + strings.Repeat("'abcdefgh',", 30) + "'abcdefgh')from 0to 1"
	s := stmt(t, tight)
	if !show.Same(s, insertOf("t", 31, 1)) {
		t.Errorf("%q says %+v", tight, s)
	}
	wantUnsound(t, s)
	// And one of too many tokens, that is short enough.
	short := func(count int) api.Stmt {
		s := insertOf("t", 0, 1)
		for range count {
			s.Vals = append(s.Vals, num(1))
		}
		return s
	}
	if !show.Sound(short(45)) || show.Sound(short(46)) {
		t.Error("tokens")
	}
}

// sixteen is a condition of sixteen comparisons, of which some have a sign of two bytes.
func sixteen(longSigns int) []api.Cond {
	var l []api.Cond
	var build func(deep int) int
	leaves := 0
	build = func(deep int) int {
		if deep == 4 {
			op := api.Eq
			if leaves < longSigns {
				op = api.Le
			}
			leaves++
			l = append(l, compare("abcdefgh", op, str("abcdefgh")))
		} else {
			left := build(deep + 1)
			right := build(deep + 1)
			l = append(l, joint(api.And, left, right))
		}
		return len(l) - 1
	}
	build(0)
	return l
}

// Cond asks for some text that says the condition: that may be shorter than the condition's own.
func TestP12_1LongConditions(t *testing.T) {
	for longSigns := range 17 {
		l := sixteen(longSigns)
		// Words need a blank between: that is so of an and ahead of a comparison.
		tight := 16*19 + 15*5 + 8 + longSigns
		text, e := show.Cond(l)
		if tight > api.MaxText {
			if text != "" || e != api.ErrForm {
				t.Errorf("of %d bytes: %q, %d", tight, text, e)
			}
			continue
		}
		if e != api.OK || len(text) != 16*21+15*7+longSigns {
			t.Fatalf("of %d bytes: %q, %d", tight, text, e)
		}
		short := strings.NewReplacer(" = ", "=", " <= ", "<=", "' and", "'and", ") and (", ")and(").Replace(text)
		if said, at, e := parse.Where(short); len(short) != tight || e != api.OK || !reflect.DeepEqual(said, l) {
			t.Errorf("Where(%q): %d, %d", short, at, e)
		}
		wantUnsound(t, api.Stmt{Kind: api.Delete, Name: "t", Where: l})
	}
}

func TestP3HandedInStays(t *testing.T) {
	spare := api.Cond{Kind: 77, Kids: []int{7}}
	kids := []int{0, 1, 77, 78}
	where := []api.Cond{compare("a", api.Eq, num(1)), compare("b", api.Eq, num(2)), joint(api.And, kids[:2]...), spare, spare}
	cols := []string{"a", "b", "spare"}
	s := api.Stmt{Kind: api.Select, Name: "t", Cols: cols[:2], Where: where[:3]}
	wantPrint(t, s, "select a, b in t where (a = 1 and b = 2)")
	wantCond(t, where[:3], "(a = 1 and b = 2)")
	if !show.Same(s, s) {
		t.Error("a statement is not the same as itself")
	}
	if !reflect.DeepEqual(kids, []int{0, 1, 77, 78}) || !reflect.DeepEqual(cols, []string{"a", "b", "spare"}) || !reflect.DeepEqual(where[3:], []api.Cond{spare, spare}) || !reflect.DeepEqual(where[:2], []api.Cond{compare("a", api.Eq, num(1)), compare("b", api.Eq, num(2))}) {
		t.Error("what was handed in changed")
	}
}
