package portion_test

import (
	"fmt"
	"math"
	"slices"
	"testing"

	"regesta/api"
	"regesta/parse"
	"regesta/portion"
	"regesta/rows"
)

// The calls are those of the chapter.
var (
	_ func([]api.Row, api.Row) []api.Row                    = portion.Insert
	_ func([]api.Row, []api.Col, api.Stmt) ([]api.Row, int) = portion.Update
	_ func([]api.Row, []api.Col, api.Stmt) ([]api.Row, int) = portion.Delete
	_ func([]api.Row, []api.Col, api.Stmt) []string         = portion.Keys
)

func num(n int64) api.Value  { return api.Value{Kind: api.Int, Num: n} }
func str(s string) api.Value { return api.Value{Kind: api.Text, Str: s} }

// row has values of numbers, of texts, or as they are.
func row(from, to int, vals ...any) api.Row {
	r := api.Row{Span: api.Span{From: from, To: to}}
	for _, v := range vals {
		switch x := v.(type) {
		case int:
			r.Vals = append(r.Vals, num(int64(x)))
		case string:
			r.Vals = append(r.Vals, str(x))
		case api.Value:
			r.Vals = append(r.Vals, x)
		}
	}
	return r
}

func list(l ...api.Row) []api.Row { return l }

var columns = []api.Col{{Name: "k", Kind: api.Int}, {Name: "v", Kind: api.Int}}

// sameRows are one by one the same; a nil list and an empty one are, too.
func sameRows(a, b []api.Row) bool {
	return slices.EqualFunc(a, b, func(x, y api.Row) bool { return slices.Equal(x.Vals, y.Vals) && x.Span == y.Span })
}

func wantRows(t *testing.T, call string, of any, got, want []api.Row) {
	t.Helper()
	if !sameRows(got, want) {
		t.Fatalf("%s of %v = %v, not %v", call, of, got, want)
	}
}

func said(t *testing.T, text string) api.Stmt {
	t.Helper()
	s, at, e := parse.Stmt(text)
	if e != api.OK {
		t.Fatalf("Stmt(%q): %d, %d", text, at, e)
	}
	return s
}

func condition(t *testing.T, text string) []api.Cond {
	t.Helper()
	if text == "" {
		return nil
	}
	l, at, e := parse.Where(text)
	if e != api.OK {
		t.Fatalf("Where(%q): %d, %d", text, at, e)
	}
	return l
}

func key(v byte) string { return string([]byte{1, 128, 0, 0, 0, 0, 0, 0, v}) }

func TestP16_1Example(t *testing.T) {
	s := said(t, "update t set k = 2 from 3 to 5")
	got, n := portion.Update(list(row(0, 10, 1)), columns, s)
	wantRows(t, "Update", "the example", got, list(row(0, 3, 1), row(5, 10, 1), row(3, 5, 2)))
	if n != 1 {
		t.Errorf("%d are hit", n)
	}
}

func TestP16_1Insert(t *testing.T) {
	for _, x := range []struct {
		l    []api.Row
		r    api.Row
		want []api.Row
	}{
		{nil, row(0, 3, 1), list(row(0, 3, 1))}, {nil, row(3, 3, 1), nil}, {nil, row(0, 1001, 1), nil}, {nil, row(-1001, 5, 1), nil}, {nil, row(math.MaxInt, math.MinInt), nil}, {nil, row(0, 1), list(row(0, 1))},
		{list(row(5, 9, 2), row(0, 3, 1)), row(3, 5, 1), list(row(0, 5, 1), row(5, 9, 2))}, {list(row(0, 3, 1), row(4, 9, 1)), row(3, 4, 1), list(row(0, 9, 1))}, {list(row(0, 3, 1)), row(0, 3, 1), list(row(0, 3, 1))}, {list(row(0, 9, 1)), row(2, 4, 1), list(row(0, 9, 1))},
		{list(row(0, 9, 1)), row(2, 4, 2), list(row(0, 9, 1), row(2, 4, 2))}, {list(row(5, 9, 1)), row(0, 4, 1), list(row(0, 4, 1), row(5, 9, 1))},
		// What was not canonical, or not right, becomes so, whatever is put in.
		{list(row(3, 5, 1), row(0, 3, 1), row(7, 7, 1)), row(9, 9, 1), list(row(0, 5, 1))}, {list(row(3, 5, 1)), row(5, 1001, 1), list(row(3, 5, 1))},
	} {
		wantRows(t, "Insert", []any{x.l, x.r}, portion.Insert(x.l, x.r), x.want)
	}
}

// One row from 0 to 10, and what each portion leaves of it, and changes.
func TestP16_1PortionsOfARow(t *testing.T) {
	l := list(row(0, 10, 1, 0))
	for _, x := range []struct {
		portion          string
		deleted, updated []api.Row
		hits             int
	}{
		{"", nil, list(row(0, 10, 1, 7)), 1}, {"from 0 to 10", nil, list(row(0, 10, 1, 7)), 1}, {"from -1000 to 1000", nil, list(row(0, 10, 1, 7)), 1}, {"from -1 to 11", nil, list(row(0, 10, 1, 7)), 1},
		{"from 0 to 4", list(row(4, 10, 1, 0)), list(row(4, 10, 1, 0), row(0, 4, 1, 7)), 1}, {"from -5 to 4", list(row(4, 10, 1, 0)), list(row(4, 10, 1, 0), row(0, 4, 1, 7)), 1},
		{"from 4 to 10", list(row(0, 4, 1, 0)), list(row(0, 4, 1, 0), row(4, 10, 1, 7)), 1}, {"from 4 to 12", list(row(0, 4, 1, 0)), list(row(0, 4, 1, 0), row(4, 10, 1, 7)), 1},
		{"from 4 to 6", list(row(0, 4, 1, 0), row(6, 10, 1, 0)), list(row(0, 4, 1, 0), row(6, 10, 1, 0), row(4, 6, 1, 7)), 1}, {"from 9 to 10", list(row(0, 9, 1, 0)), list(row(0, 9, 1, 0), row(9, 10, 1, 7)), 1}, {"from 0 to 1", list(row(1, 10, 1, 0)), list(row(1, 10, 1, 0), row(0, 1, 1, 7)), 1},
		{"from 10 to 12", l, l, 0}, {"from -5 to 0", l, l, 0}, {"from 20 to 30", l, l, 0}, {"from 4 to 4", l, l, 0}, {"from 6 to 4", l, l, 0}, {"from -1001 to 6", l, l, 0}, {"from 4 to 1001", l, l, 0}, {"from 0 to 0", l, l, 0},
	} {
		s := said(t, "update t set v = 7 "+x.portion)
		got, n := portion.Update(l, columns, s)
		wantRows(t, "Update", x.portion, got, x.updated)
		if n != x.hits {
			t.Errorf("Update %s hits %d", x.portion, n)
		}
		s = said(t, "delete t "+x.portion)
		got, n = portion.Delete(l, columns, s)
		wantRows(t, "Delete", x.portion, got, x.deleted)
		if n != x.hits {
			t.Errorf("Delete %s hits %d", x.portion, n)
		}
		if keys := portion.Keys(l, columns, s); !slices.Equal(keys, []string{key(1)}[:x.hits]) {
			t.Errorf("Keys %s = %q", x.portion, keys)
		}
	}
}

// Without HasSpan the span is not looked at; with it, all that it says is.
func TestP16_1HasSpan(t *testing.T) {
	l := list(row(-1000, 1000, 1, 0))
	for _, s := range []api.Span{{}, {From: 2, To: 3}, {From: 5, To: 2}, {From: math.MinInt, To: math.MaxInt}, {From: math.MaxInt, To: math.MinInt}} {
		got, n := portion.Delete(l, columns, api.Stmt{Kind: api.Delete, Span: s})
		if len(got) > 0 || n != 1 {
			t.Errorf("Delete without a span, but with %v: %v, %d", s, got, n)
		}
	}
	for _, s := range []api.Span{{}, {From: 5, To: 2}, {From: -1001, To: 1000}, {From: -1000, To: 1001}, {From: math.MinInt, To: math.MaxInt}, {From: math.MaxInt, To: math.MinInt}} {
		x := api.Stmt{Kind: api.Delete, HasSpan: true, Span: s, Sets: []api.Set{{Col: "v", Val: num(7)}}}
		got, n := portion.Delete(l, columns, x)
		again, m := portion.Update(l, columns, x)
		if !sameRows(got, l) || n != 0 || !sameRows(again, l) || m != 0 || len(portion.Keys(l, columns, x)) > 0 {
			t.Errorf("with %v: %v, %d; %v, %d", s, got, n, again, m)
		}
	}
}

func TestP16_1Sets(t *testing.T) {
	set := func(col string, v api.Value) api.Set { return api.Set{Col: col, Val: v} }
	odd := api.Value{Kind: 9, Num: 1, Str: "\xff"}
	for _, x := range []struct {
		sets []api.Set
		vals api.Row
		want api.Row
	}{
		{nil, row(0, 9, 1, 2), row(0, 9, 1, 2)}, {[]api.Set{set("v", num(5))}, row(0, 9, 1, 2), row(0, 9, 1, 5)}, {[]api.Set{set("k", num(5))}, row(0, 9, 1, 2), row(0, 9, 5, 2)}, {[]api.Set{set("v", str("b"))}, row(0, 9, 1, 2), row(0, 9, 1, "b")}, {[]api.Set{set("v", odd), set("k", api.Value{})}, row(0, 9, 1, 2), row(0, 9, api.Value{}, odd)},
		// No column is changed by a name that there is not.
		{[]api.Set{set("x", num(5))}, row(0, 9, 1, 2), row(0, 9, 1, 2)}, {[]api.Set{set("", num(5))}, row(0, 9, 1, 2), row(0, 9, 1, 2)}, {[]api.Set{set("V", num(5)), set("v", num(6)), set("x", num(7))}, row(0, 9, 1, 2), row(0, 9, 1, 6)},
		// Of two the later one is there.
		{[]api.Set{set("v", num(5)), set("v", num(6))}, row(0, 9, 1, 2), row(0, 9, 1, 6)}, {[]api.Set{set("v", num(6)), set("k", num(3)), set("v", num(5))}, row(0, 9, 1, 2), row(0, 9, 3, 5)}, {[]api.Set{set("v", num(6)), set("v", num(2))}, row(0, 9, 1, 2), row(0, 9, 1, 2)},
		// A row without such a value gets none; one that has more keeps them.
		{[]api.Set{set("v", num(5))}, row(0, 9, 1), row(0, 9, 1)}, {[]api.Set{set("v", num(5)), set("k", num(4))}, row(0, 9, 1), row(0, 9, 4)}, {[]api.Set{set("k", num(5))}, row(0, 9), row(0, 9)}, {[]api.Set{set("v", num(5))}, row(0, 9, 1, 2, 3), row(0, 9, 1, 5, 3)},
	} {
		got, n := portion.Update(list(x.vals), columns, api.Stmt{Kind: api.Update, Sets: x.sets})
		wantRows(t, "Update", []any{x.vals, x.sets}, got, list(x.want))
		if n != 1 {
			t.Errorf("%v: %d are hit", x.sets, n)
		}
	}
	twins := []api.Col{{Name: "a"}, {Name: "v"}, {Name: "v"}}
	got, _ := portion.Update(list(row(0, 9, 1, 2, 3)), twins, api.Stmt{Sets: []api.Set{set("v", num(7))}})
	wantRows(t, "Update", "two columns of one name", got, list(row(0, 9, 1, 7, 3)))
	got, n := portion.Update(list(row(0, 9, 1, 2)), nil, api.Stmt{Sets: []api.Set{set("v", num(7))}})
	wantRows(t, "Update", "no columns", got, list(row(0, 9, 1, 2)))
	if n != 1 {
		t.Errorf("without columns %d are hit", n)
	}
}

// What Where asks is asked of the values as they were, whatever the Sets would make of them.
func TestP16_1Where(t *testing.T) {
	l := list(row(0, 5, 1, 0), row(0, 5, 2, 1), row(0, 5, 3))
	for _, x := range []struct {
		text string
		want []api.Row
		hits int
	}{
		{"update t set v = 1 where v = 0", list(row(0, 5, 1, 1), row(0, 5, 2, 1), row(0, 5, 3)), 1}, {"update t set v = 1 where v = 1", list(row(0, 5, 1, 0), row(0, 5, 2, 1), row(0, 5, 3)), 1}, {"update t set v = 0 where v = 1", list(row(0, 5, 1, 0), row(0, 5, 2, 0), row(0, 5, 3)), 1},
		{"update t set k = 9, v = 8 where (k = 1 and v = 0)", list(row(0, 5, 2, 1), row(0, 5, 3), row(0, 5, 9, 8)), 1}, {"update t set v = 5 where k > 0", list(row(0, 5, 1, 5), row(0, 5, 2, 5), row(0, 5, 3)), 3}, {"update t set v = 5 where not v = 0", list(row(0, 5, 1, 0), row(0, 5, 2, 5), row(0, 5, 3)), 2},
		{"update t set v = 5 where x = 0", l, 0}, {"update t set v = 5 where v = 'a'", l, 0}, {"update t set v = 5 where k = 9", l, 0},
	} {
		s := said(t, x.text)
		got, n := portion.Update(l, columns, s)
		wantRows(t, "Update", x.text, got, x.want)
		if n != x.hits {
			t.Errorf("%s: %d are hit", x.text, n)
		}
	}
	// A condition of no kind holds of none, and one without parts of all.
	if _, n := portion.Update(l, columns, api.Stmt{Where: []api.Cond{{}}}); n != 0 {
		t.Errorf("a condition of no kind hits %d", n)
	}
	if got, n := portion.Delete(l, columns, api.Stmt{Where: []api.Cond{}}); n != 3 || len(got) > 0 {
		t.Errorf("a condition without parts hits %d", n)
	}
	if got, n := portion.Delete(l, nil, said(t, "delete t where k = 1")); n != 0 || !sameRows(got, l) {
		t.Errorf("without columns %d are hit", n)
	}
}

// Rows are hit one by one, as they are handed in, though they may be joined.
func TestP16_1HowManyAreHit(t *testing.T) {
	l := list(row(3, 5, 1, 0), row(0, 3, 1, 0), row(0, 3, 1, 0), row(2, 4, 1, 0), row(5, 5, 1, 0), row(0, 1001, 1, 0), row(4, 9, 1, 1), row(0, 5, 2, 0))
	for _, x := range []struct {
		text string
		want []api.Row
		hits int
	}{
		{"update t set v = 0 where k = 1", list(row(0, 9, 1, 0), row(0, 5, 2, 0)), 5}, {"update t set v = 7 where v = 0", list(row(4, 9, 1, 1), row(0, 5, 1, 7), row(0, 5, 2, 7)), 5}, {"update t set k = 3, v = 3", list(row(0, 9, 3, 3)), 6},
		{"update t set v = 7 from 0 to 2 where k = 1", list(row(2, 5, 1, 0), row(4, 9, 1, 1), row(0, 2, 1, 7), row(0, 5, 2, 0)), 2}, {"update t set v = 7 where k = 9", list(row(0, 5, 1, 0), row(4, 9, 1, 1), row(0, 5, 2, 0)), 0},
		{"delete t where k = 1", list(row(0, 5, 2, 0)), 5}, {"delete t from 2 to 3", list(row(0, 2, 1, 0), row(3, 5, 1, 0), row(4, 9, 1, 1), row(0, 2, 2, 0), row(3, 5, 2, 0)), 4}, {"delete t", nil, 6}, {"delete t where v = 1", list(row(0, 5, 1, 0), row(0, 5, 2, 0)), 1}, {"delete t from 9 to 20", list(row(0, 5, 1, 0), row(4, 9, 1, 1), row(0, 5, 2, 0)), 0},
	} {
		s := said(t, x.text)
		change := portion.Update
		if s.Kind == api.Delete {
			change = portion.Delete
		}
		got, n := change(l, columns, s)
		wantRows(t, "the change", x.text, got, x.want)
		if n != x.hits {
			t.Errorf("%s: %d are hit, not %d", x.text, n, x.hits)
		}
	}
	for _, none := range [][]api.Row{nil, {}, list(row(3, 3, 1, 0), row(5, 1, 1, 0), row(-1001, 1001))} {
		u, n := portion.Update(none, columns, said(t, "update t set v = 1"))
		d, m := portion.Delete(none, columns, said(t, "delete t"))
		if len(u) > 0 || n != 0 || len(d) > 0 || m != 0 || len(portion.Keys(none, columns, api.Stmt{})) > 0 {
			t.Errorf("of %v: %v, %d; %v, %d", none, u, n, d, m)
		}
	}
}

func TestP16_1Keys(t *testing.T) {
	odd := api.Value{Kind: api.Int, Num: 1, Str: "x"}
	l := list(row(0, 5, "b", 1), row(3, 5, 2, 0), row(0, 3, 2, 1), row(5, 9, 1, 0), row(0, 3, "", 0), row(7, 7, 3, 0), row(0, 3, 1, 5), row(0, 3, -1, 0), row(0, 3, "ä", 0))
	minus := string([]byte{1, 127, 255, 255, 255, 255, 255, 255, 255})
	for _, x := range []struct {
		text string
		want []string
	}{
		{"delete t", []string{minus, key(1), key(2), "\x02\x00", "\x02b\x00", "\x02ä\x00"}}, {"delete t where k = 2", []string{key(2)}}, {"delete t where k = 3", nil}, {"delete t from 3 to 9", []string{key(1), key(2), "\x02b\x00"}}, {"delete t where v = 0", []string{minus, key(1), key(2), "\x02\x00", "\x02ä\x00"}}, {"delete t from 9 to 12", nil}, {"delete t from 4 to 4", nil},
		{"update t set k = 9 where v = 5", []string{key(1)}},
	} {
		if got := portion.Keys(l, columns, said(t, x.text)); !slices.Equal(got, x.want) {
			t.Errorf("Keys of %s = %q, not %q", x.text, got, x.want)
		}
		turned := slices.Clone(l)
		slices.Reverse(turned)
		if got := portion.Keys(turned, columns, said(t, x.text)); !slices.Equal(got, x.want) {
			t.Errorf("Keys of %s, turned, = %q, not %q", x.text, got, x.want)
		}
	}
	// A row without a key, or with one that is not right, has the key of codec: no byte.
	if got := portion.Keys(list(row(0, 3, 2), row(0, 3), row(0, 3, odd), row(0, 3, api.Value{Kind: 9})), columns, api.Stmt{}); !slices.Equal(got, []string{"", key(2)}) {
		t.Errorf("Keys of rows without one = %q", got)
	}
}

// What a statement's other fields hold is of no matter.
func TestP16_1OtherFields(t *testing.T) {
	l := list(row(0, 5, 1, 0), row(3, 9, 2, 0))
	sets := []api.Set{{Col: "v", Val: num(7)}}
	plain := api.Stmt{Kind: api.Update, Name: "t", Sets: sets, HasSpan: true, Span: api.Span{From: 2, To: 4}, Where: condition(t, "k < 5")}
	wantUpdated, n := portion.Update(l, columns, plain)
	wantDeleted, _ := portion.Delete(l, columns, plain)
	if n != 2 {
		t.Fatalf("%d are hit", n)
	}
	for kind := range 12 {
		s := plain
		s.Kind, s.Name, s.Table, s.Vals, s.Cols, s.Join, s.On, s.Order = api.StmtKind(kind), "", api.Table{Name: "x", Cols: []api.Col{{}}, Ref: -1}, []api.Value{num(3)}, []string{"q"}, "j", [2]string{"a", "b"}, "z"
		s.Time, s.A, s.B = api.TimeKind(kind), math.MinInt, math.MaxInt
		got, n := portion.Update(l, columns, s)
		wantRows(t, "Update", kind, got, wantUpdated)
		deleted, m := portion.Delete(l, columns, s)
		wantRows(t, "Delete", kind, deleted, wantDeleted)
		if keys := portion.Keys(l, columns, s); n != 2 || m != 2 || len(keys) != 2 {
			t.Errorf("kind %d: %d, %d, %q", kind, n, m, keys)
		}
	}
}

func TestP1WrongInputs(t *testing.T) {
	numbers := []int{math.MinInt, -1001, -1000, 0, 1000, 1001, math.MaxInt}
	values := []api.Value{{}, num(math.MinInt64), str("\xff"), {Kind: 255, Num: 1, Str: "a"}}
	var l []api.Row
	var stmts []api.Stmt
	for _, from := range numbers {
		for _, to := range numbers {
			l = append(l, row(from, to, values[len(l)%4]), row(from, to), row(from, to, 1, 2, 3, 4, 5, 6))
			kids := []int{from, to, 0, 1}
			stmts = append(stmts, api.Stmt{HasSpan: len(stmts)%2 == 0, Span: api.Span{From: from, To: to}, Sets: []api.Set{{}, {Col: "\xff", Val: values[0]}, {Col: "k", Val: values[3]}}, Where: []api.Cond{{Kind: 9}, {Kind: api.Or, Kids: kids}, {Kind: api.Not, Kids: kids}}})
		}
	}
	for _, s := range append(stmts, api.Stmt{}) {
		for _, cols := range [][]api.Col{nil, {}, columns, {{}, {}}, {{Name: "k", Kind: 9}, {Name: "\xff"}, {Name: "k"}}} {
			updated, n := portion.Update(l, cols, s)
			deleted, m := portion.Delete(l, cols, s)
			if !canonical(updated) || !canonical(deleted) || n != m || n < 0 || n > len(l) {
				t.Fatalf("%v, %v: %v, %d; %v, %d", cols, s, updated, n, deleted, m)
			}
			portion.Keys(l, cols, s)
		}
	}
	for _, r := range l {
		if got := portion.Insert(l, r); !sameRows(got, rows.Canon(l)) {
			t.Fatalf("Insert of %v, which is there: %v", r, got)
		}
	}
}

func TestP1ManyParts(t *testing.T) {
	where := []api.Cond{{Kind: api.Cmp, Col: "k", Op: api.Eq, Val: num(1)}}
	for i := range 1 << 16 {
		where = append(where, api.Cond{Kind: api.And, Kids: []int{i, i, i}})
	}
	sets := make([]api.Set, 1<<16)
	got, n := portion.Update(list(row(0, 5, 1, 0), row(0, 5, 2, 0)), columns, api.Stmt{Where: where, Sets: append(sets, api.Set{Col: "v", Val: num(9)})})
	wantRows(t, "Update", "many parts", got, list(row(0, 5, 1, 9), row(0, 5, 2, 0)))
	if n != 1 {
		t.Errorf("%d are hit", n)
	}
}

// spare is a list with spare room behind its end, and behind that of each row's values, with something in it.
func spare(l ...api.Row) []api.Row {
	whole := make([]api.Row, 0, len(l)+2)
	for _, r := range l {
		vals := append(slices.Clone(r.Vals), num(501), str("spare"))
		whole = append(whole, api.Row{Vals: vals[:len(r.Vals)], Span: r.Span})
	}
	whole = append(whole, row(501, 502, 501), row(503, 504, "spare"))
	return whole[:len(l)]
}

// told is a list as a text, with all its spare room.
func told(l []api.Row) string {
	text := ""
	for _, r := range l[:cap(l)] {
		text += fmt.Sprint(r.Span, r.Vals[:cap(r.Vals)], len(r.Vals), "; ")
	}
	return text
}

func scribbleValues(r api.Row) {
	for j := range r.Vals[:cap(r.Vals)] {
		r.Vals[:cap(r.Vals)][j] = str("scribbled")
	}
}

// scribble writes over all of a list, its spare room and its rows' values too.
func scribble(l []api.Row) {
	for i, r := range l[:cap(l)] {
		scribbleValues(r)
		l[:cap(l)][i] = row(-77, 77, "scribbled", 7)
	}
}

// changes are all calls that answer rows; the row and the statement that they have are handed in, too.
func changes(r api.Row, s api.Stmt) map[string]func(l []api.Row) []api.Row {
	return map[string]func(l []api.Row) []api.Row{
		"Insert": func(l []api.Row) []api.Row { return portion.Insert(l, r) },
		"Update": func(l []api.Row) []api.Row {
			out, _ := portion.Update(l, columns, s)
			return out
		},
		"Delete": func(l []api.Row) []api.Row {
			out, _ := portion.Delete(l, columns, s)
			return out
		},
	}
}

func handedIn() []api.Row {
	return spare(row(0, 9, 1, 0), row(2, 5, 2, 0), row(5, 9, 3, 0), row(0, 2), row(4, 4, 1, 0), row(9, 12, 1, 0))
}

func TestP3HandedInAndOut(t *testing.T) {
	for name := range changes(api.Row{}, api.Stmt{}) {
		l, one := handedIn(), spare(row(3, 4, 8, 8))
		s := api.Stmt{HasSpan: true, Span: api.Span{From: 3, To: 6}, Sets: append(make([]api.Set, 0, 4), api.Set{Col: "v", Val: num(7)})}
		call := changes(one[0], s)[name]
		ahead, oneAhead, sAhead := told(l), told(one), fmt.Sprint(s, s.Sets[:cap(s.Sets)], columns)
		got := call(l)
		want := fmt.Sprint(got)
		if told(l) != ahead || told(one) != oneAhead || fmt.Sprint(s, s.Sets[:cap(s.Sets)], columns) != sAhead {
			t.Errorf("%s changes what is handed in", name)
		}
		for i, r := range got {
			others := fmt.Sprint(got[:i], got[i+1:])
			scribbleValues(r)
			if after := fmt.Sprint(got[:i], got[i+1:]); after != others {
				t.Errorf("%s: row %d shares its values with another one: %s", name, i, after)
			}
		}
		scribble(got)
		if told(l) != ahead || told(one) != oneAhead {
			t.Errorf("what %s answers lies in what is handed in", name)
		}
		got = call(l)
		if fmt.Sprint(got) != want {
			t.Errorf("%s answers %v, and ahead of that %s", name, got, want)
		}
		scribble(l)
		scribble(one)
		if fmt.Sprint(got) != want {
			t.Errorf("what is handed in lies in what %s answers", name)
		}
	}
	l := handedIn()
	ahead := told(l)
	keys := portion.Keys(l, columns, api.Stmt{})
	for i := range keys[:cap(keys)] {
		keys[:cap(keys)][i] = "scribbled"
	}
	if again := portion.Keys(l, columns, api.Stmt{}); told(l) != ahead || !slices.Equal(again, []string{"", key(1), key(2), key(3)}) {
		t.Errorf("Keys again: %q of %s", again, told(l))
	}
}
