package keep_test

import (
	"fmt"
	"math"
	"slices"
	"testing"

	"regesta/api"
	"regesta/keep"
	"regesta/rows"
	"regesta/schema"
)

// The calls are those of the chapter.
var (
	_ func([]api.Row) (api.Row, bool)                               = keep.Twice
	_ func([]api.Row, int, []api.Row) (api.Row, bool)               = keep.Alone
	_ func(api.Table, []api.Row) bool                               = keep.Fits
	_ func(*schema.Catalog, *rows.State) (string, api.Errno)        = keep.State
	_ func(*schema.Catalog, *rows.State, string) (broken []api.Row) = keep.Broken
)

func num(n int64) api.Value  { return api.Value{Kind: api.Int, Num: n} }
func str(s string) api.Value { return api.Value{Kind: api.Text, Str: s} }

// row has values of numbers, of texts, or as they are.
func row(from, to int, vals ...any) api.Row {
	r := api.Row{Span: api.Span{From: from, To: to}}
	for _, v := range vals {
		switch x := v.(type) {
		case int:
			r.Vals = append(r.Vals, num(int64(x)))
		case string:
			r.Vals = append(r.Vals, str(x))
		case api.Value:
			r.Vals = append(r.Vals, x)
		}
	}
	return r
}

func list(l ...api.Row) []api.Row { return l }

func sameRow(a, b api.Row) bool { return slices.Equal(a.Vals, b.Vals) && a.Span == b.Span }

// sameRows are one by one the same; a nil list and an empty one are, too.
func sameRows(a, b []api.Row) bool { return slices.EqualFunc(a, b, sameRow) }

// one is a list of the row, if there is one; without one the row must be the zero value.
func one(t *testing.T, r api.Row, is bool) []api.Row {
	t.Helper()
	if is {
		return list(r)
	}
	if len(r.Vals) > 0 || r.Span != (api.Span{}) {
		t.Fatalf("false comes with %v", r)
	}
	return nil
}

func wantTwice(t *testing.T, l, want []api.Row) {
	t.Helper()
	r, is := keep.Twice(l)
	if got := one(t, r, is); !sameRows(got, want) {
		t.Fatalf("Twice(%v) = %v, not %v", l, got, want)
	}
}

func wantAlone(t *testing.T, l []api.Row, col int, parents, want []api.Row) {
	t.Helper()
	r, is := keep.Alone(l, col, parents)
	if got := one(t, r, is); !sameRows(got, want) {
		t.Fatalf("Alone(%v, %d, %v) = %v, not %v", l, col, parents, got, want)
	}
}

func wantState(t *testing.T, c *schema.Catalog, s *rows.State, name string, errno api.Errno) {
	t.Helper()
	if n, e := keep.State(c, s); n != name || e != errno {
		t.Fatalf("State = %q, %d, not %q, %d", n, e, name, errno)
	}
}

func wantBroken(t *testing.T, c *schema.Catalog, s *rows.State, name string, want []api.Row) {
	t.Helper()
	if got := keep.Broken(c, s, name); !sameRows(got, want) {
		t.Fatalf("Broken(%q) = %v, not %v", name, got, want)
	}
}

// outside are rows without points: not ahead of their end, or not within the limits.
func outside(vals ...any) []api.Row {
	var out []api.Row
	for _, s := range []api.Span{{}, {From: 5, To: 5}, {From: 6, To: 5}, {From: -1001, To: 5}, {From: 0, To: 1001}, {From: -1001, To: 1001}, {From: math.MinInt, To: math.MaxInt}, {From: math.MaxInt, To: math.MinInt}, {From: 1000, To: 1001}, {From: -1001, To: -1000}, {From: 1000, To: 1000}} {
		out = append(out, row(s.From, s.To, vals...))
	}
	return out
}

// table has columns of kinds that are told by letters: i, t, or others.
func table(name, kinds, parent string, ref int) api.Table {
	t := api.Table{Name: name, Parent: parent, Ref: ref}
	for i, k := range kinds {
		kind := map[rune]api.Kind{'i': api.Int, 't': api.Text, '9': 9}[k]
		t.Cols = append(t.Cols, api.Col{Name: string(rune('a' + i)), Kind: kind})
	}
	return t
}

func catalog(t *testing.T, tables ...api.Table) *schema.Catalog {
	t.Helper()
	c := schema.New()
	for _, x := range tables {
		if e := c.Create(x); e != api.OK {
			t.Fatalf("Create(%v) = %d", x, e)
		}
	}
	return c
}

// two are tables p and q, the second of which refers by its second column to the key of p.
func two(t *testing.T) *schema.Catalog {
	t.Helper()
	return catalog(t, table("p", "ii", "", 0), table("q", "ii", "p", 1))
}

type put struct {
	name string
	rows []api.Row
}

func state(t *testing.T, puts ...put) *rows.State {
	t.Helper()
	s := rows.New()
	for _, x := range puts {
		if e := s.Put(x.name, x.rows); e != api.OK {
			t.Fatalf("Put(%q) = %d", x.name, e)
		}
	}
	return s
}

func TestP17_1Example(t *testing.T) {
	wantAlone(t, list(row(0, 10, 1, 5)), 1, list(row(0, 5, 5)), list(row(0, 10, 1, 5)))
}

func TestP17_1Twice(t *testing.T) {
	for _, x := range []struct{ l, want []api.Row }{
		{nil, nil}, {list(), nil}, {list(row(0, 5, 1)), nil},
		{list(row(0, 5, 1), row(4, 8, 1)), list(row(0, 5, 1))}, {list(row(4, 8, 1), row(0, 5, 1)), list(row(0, 5, 1))}, {list(row(0, 9, 1), row(4, 5, 1)), list(row(0, 9, 1))},
		// One that stands there twice has itself.
		{list(row(0, 5, 1), row(0, 5, 1)), list(row(0, 5, 1))}, {list(row(0, 5, 2), row(0, 5, 1), row(0, 5, 2)), list(row(0, 5, 2))},
		// The key is the first value alone, and the other ones tell which row comes first.
		{list(row(0, 5, 1, 7), row(0, 5, 1, 3)), list(row(0, 5, 1, 3))}, {list(row(0, 1, 1, 9), row(9, 10, 1, 0), row(0, 9, 1, 5)), list(row(0, 9, 1, 5))}, {list(row(0, 5, 1, 7), row(0, 5, 1)), list(row(0, 5, 1))}, {list(row(0, 5, 1, 7), row(0, 5, 2, 7)), nil},
		{list(row(0, 5, 7, 1), row(0, 5, 8, 1)), nil}, {list(row(0, 5, 1), row(0, 5, "1")), nil}, {list(row(0, 5, "a"), row(0, 5, "A")), nil}, {list(row(4, 5, "ä", 2), row(0, 5, "ä", 1)), list(row(0, 5, "ä", 1))},
		// They meet, or lie apart.
		{list(row(0, 5, 1), row(5, 8, 1)), nil}, {list(row(5, 8, 1), row(0, 5, 1), row(9, 12, 1)), nil}, {list(row(0, 5, 1), row(5, 8, 1), row(7, 9, 1)), list(row(5, 8, 1))}, {list(row(-1000, 0, 1), row(0, 1000, 1)), nil}, {list(row(-1000, 1, 1), row(0, 1000, 1)), list(row(-1000, 1, 1))}, {list(row(-1000, 1000, 1), row(999, 1000, 1)), list(row(-1000, 1000, 1))},
		// The first one in order is asked for, not the first pair that is found.
		{list(row(0, 5, 3), row(0, 5, 3), row(0, 5, 2), row(4, 9, 2)), list(row(0, 5, 2))}, {list(row(0, 2, 1), row(3, 9, 1), row(4, 5, 1)), list(row(3, 9, 1))}, {list(row(0, 9, 2, 0), row(5, 6, 1, 0), row(0, 3, 1, 5), row(2, 6, 1, 9)), list(row(5, 6, 1, 0))},
		// A row without values has no key.
		{list(row(0, 5), row(0, 5)), nil}, {list(row(0, 5), row(0, 5), row(0, 5, api.Value{}), row(4, 6, api.Value{})), list(row(0, 5, api.Value{}))}, {list(row(0, 5), row(0, 5, api.Value{})), nil},
		// Values that are not right are values.
		{list(row(0, 5, api.Value{Kind: 9, Num: 1, Str: "a"}), row(1, 2, api.Value{Kind: 9, Num: 1, Str: "a"})), list(row(0, 5, api.Value{Kind: 9, Num: 1, Str: "a"}))}, {list(row(0, 5, api.Value{Kind: 1, Num: 1, Str: "a"}), row(1, 2, 1)), nil},
	} {
		wantTwice(t, x.l, x.want)
		turned := slices.Clone(x.l)
		slices.Reverse(turned)
		wantTwice(t, turned, x.want)
	}
}

func TestP17_1TwiceOfSpansThatAreNotRight(t *testing.T) {
	wrong := outside(1)
	wantTwice(t, wrong, nil)
	wantTwice(t, append(wrong, wrong...), nil)
	for _, r := range wrong {
		wantTwice(t, list(r, row(-1000, 1000, 1)), nil)
		wantTwice(t, list(row(0, 5, 1), r, row(3, 5, 1)), list(row(0, 5, 1)))
	}
}

func TestP17_1Alone(t *testing.T) {
	child := list(row(2, 8, 7, 1))
	for _, x := range []struct{ parents, want []api.Row }{
		{nil, child}, {list(), child}, {list(row(2, 8, 1)), nil}, {list(row(-1000, 1000, 1, 5, 6)), nil}, {list(row(0, 9, 1)), nil},
		// They cover it together, meeting or overlapping, in whatever order.
		{list(row(2, 5, 1), row(5, 8, 1)), nil}, {list(row(5, 9, 1, 1), row(0, 6, 1, 2)), nil}, {list(row(6, 8, 1), row(2, 3, 1), row(3, 6, 1)), nil}, {list(row(2, 8, 1), row(2, 8, 1)), nil},
		// One point is left: at an end, or in the midst.
		{list(row(3, 8, 1)), child}, {list(row(2, 7, 1)), child}, {list(row(2, 4, 1), row(5, 8, 1)), child}, {list(row(2, 7, 1), row(8, 9, 1)), child}, {list(row(0, 2, 1), row(8, 20, 1)), child},
		// Others' keys cover nothing, nor do other columns.
		{list(row(2, 8, 2)), child}, {list(row(2, 8, "1")), child}, {list(row(2, 8, 2, 1)), child}, {list(row(2, 5, 1), row(5, 8, 2)), child}, {list(row(2, 8, 7)), child}, {list(row(2, 8)), child}, {list(row(2, 8, api.Value{Kind: api.Int, Num: 1, Str: "x"})), child}, {list(row(2, 8), row(2, 8, 2), row(2, 8, 1)), nil},
		// Parents that are not right have no points.
		{outside(1), child}, {list(row(-1001, 1000, 1)), child}, {list(row(2, 5, 1), row(5, 1001, 1)), child}, {append(outside(1), row(2, 8, 1)), nil},
	} {
		wantAlone(t, child, 1, x.parents, x.want)
	}
}

func TestP17_1AloneWhichRow(t *testing.T) {
	parents := list(row(0, 5, 1), row(0, 9, 2))
	for _, x := range []struct {
		l    []api.Row
		col  int
		want []api.Row
	}{
		{nil, 1, nil}, {list(), 1, nil}, {list(row(4, 6, 8, 1), row(0, 9, 7, 2), row(4, 6, 5, 1), row(0, 5, 3, 1)), 1, list(row(4, 6, 5, 1))}, {list(row(6, 7, 1, 1), row(5, 7, 1, 1)), 1, list(row(5, 7, 1, 1))}, {list(row(0, 5, 9, 1), row(0, 9, 7, 2)), 1, nil},
		// One that stands there twice is no more alone than once.
		{list(row(0, 5, 9, 1), row(0, 5, 9, 1)), 1, nil}, {list(row(0, 6, 9, 1), row(0, 6, 9, 1)), 1, list(row(0, 6, 9, 1))},
		// Column 0 is one, too.
		{list(row(0, 5, 1, 9), row(0, 9, 2, 9)), 0, nil}, {list(row(0, 5, 1, 1), row(0, 9, 3, 1)), 0, list(row(0, 9, 3, 1))}, {list(row(0, 5, 7, 7, 7, 1)), 3, nil}, {list(row(0, 5, 1, 1, 1, 7)), 3, list(row(0, 5, 1, 1, 1, 7))},
		// No value at col: below 0, or behind a row's values.
		{list(row(0, 5, 7, 7)), -1, nil}, {list(row(0, 5, 7, 7)), math.MinInt, nil}, {list(row(0, 5, 7, 7)), 2, nil}, {list(row(0, 5, 7, 7)), math.MaxInt, nil}, {list(row(0, 5)), 0, nil}, {list(row(0, 5), row(0, 5, 7), row(0, 5, 8, 7)), 1, list(row(0, 5, 8, 7))}, {list(row(0, 5), row(0, 5, 7)), 1, nil},
		// A span that is not right has no points.
		{outside(7, 7), 1, nil}, {append(outside(7, 7), row(3, 4, 8, 8)), 1, list(row(3, 4, 8, 8))},
		{list(row(0, 5, 7, api.Value{})), 1, list(row(0, 5, 7, api.Value{}))}, {list(row(0, 5, 7, api.Value{Kind: api.Int, Num: 1, Str: "x"})), 1, list(row(0, 5, 7, api.Value{Kind: api.Int, Num: 1, Str: "x"}))},
	} {
		wantAlone(t, x.l, x.col, parents, x.want)
	}
	// A value that is not right may be a key.
	odd := api.Value{Kind: 9, Str: "\xff"}
	wantAlone(t, list(row(0, 5, 1, odd)), 1, list(row(0, 5, odd)), nil)
	wantAlone(t, list(row(0, 5, 1, odd)), 1, list(row(0, 4, odd)), list(row(0, 5, 1, odd)))
}

func TestP17_1Fits(t *testing.T) {
	both := table("t", "it", "", 0)
	for _, x := range []struct {
		t    api.Table
		l    []api.Row
		want bool
	}{
		{both, nil, true}, {both, list(), true}, {api.Table{}, nil, true}, {both, list(row(0, 5, 1, "a")), true}, {both, list(row(0, 5, 1, "a"), row(0, 5, 1, "a"), row(0, 9, math.MinInt64, "")), true}, {both, list(row(-1000, 1000, 1, "äöüäöüäö")), true},
		// Fewer, and more.
		{both, list(row(0, 5, 1)), false}, {both, list(row(0, 5, 1, "a", 1)), false}, {both, list(row(0, 5)), false}, {api.Table{}, list(row(0, 5)), false}, {api.Table{}, list(row(0, 5, 1)), false}, {table("t", "i", "", 0), list(row(0, 5, 1)), true}, {table("t", "iiii", "", 0), list(row(0, 5, 1, 2, 3, 4)), true}, {table("t", "iiiii", "", 0), list(row(0, 5, 1, 2, 3, 4, 5)), false},
		// Of another kind.
		{both, list(row(0, 5, "a", "a")), false}, {both, list(row(0, 5, 1, 1)), false}, {both, list(row(0, 5, "a", 1)), false}, {both, list(row(0, 5, 1, api.Value{})), false}, {table("t", "0", "", 0), list(row(0, 5, api.Value{})), false}, {table("t", "9", "", 0), list(row(0, 5, api.Value{Kind: 9})), false}, {table("t", "9", "", 0), list(row(0, 5, 1)), false},
		// Not right.
		{both, list(row(0, 5, api.Value{Kind: api.Int, Num: 1, Str: "x"}, "a")), false}, {both, list(row(0, 5, 1, api.Value{Kind: api.Text, Num: 1, Str: "x"})), false}, {both, list(row(0, 5, 1, "äöüäöüäöü")), false}, {both, list(row(0, 5, 1, "\xff")), false}, {both, list(row(0, 5, 1, "a\n")), false},
		// One of several.
		{both, list(row(0, 5, 1, "a"), row(0, 5, 1)), false}, {both, list(row(0, 5, 1), row(0, 5, 1, "a")), false},
	} {
		if got := keep.Fits(x.t, x.l); got != x.want {
			t.Errorf("Fits(%v, %v) = %v", x.t, x.l, got)
		}
	}
	for _, r := range outside(1, "a") {
		if keep.Fits(both, list(r)) {
			t.Errorf("%v fits", r)
		}
	}
	// What else a table has is of no matter.
	other := table("", "it", "nowhere", -7)
	other.Cols[0].Name, other.Cols[1].Name = "", ""
	if !keep.Fits(other, list(row(0, 5, 1, "a"))) {
		t.Error("other fields of the table matter")
	}
}

func TestP17_2State(t *testing.T) {
	c := two(t)
	fine := put{"p", list(row(0, 5, 1, 0), row(5, 8, 1, 9), row(0, 9, 2, 0))}
	for _, x := range []struct {
		puts  []put
		name  string
		errno api.Errno
	}{
		// Tables without rows, or that the state has not.
		{nil, "", api.OK}, {[]put{{"p", nil}, {"q", nil}}, "", api.OK}, {[]put{fine}, "", api.OK}, {[]put{fine, {"q", nil}}, "", api.OK},
		{[]put{fine, {"q", list(row(2, 8, 7, 1), row(0, 9, 8, 2))}}, "", api.OK}, {[]put{fine, {"q", list(row(2, 9, 7, 1))}}, "q", api.ErrRef}, {[]put{fine, {"q", list(row(0, 5, 7, 3))}}, "q", api.ErrRef}, {[]put{{"q", list(row(0, 5, 7, 1))}}, "q", api.ErrRef},
		{[]put{{"p", list(row(0, 5, 1, 0), row(4, 8, 1, 9))}}, "p", api.ErrKey}, {[]put{{"p", list(row(0, 5, 1, 0), row(0, 5, 1, 0))}}, "p", api.ErrKey}, {[]put{fine, {"q", list(row(0, 5, 7, 1), row(4, 6, 7, 1))}}, "q", api.ErrKey},
		{[]put{{"p", list(row(0, 5, 1))}}, "p", api.ErrType}, {[]put{{"p", list(row(0, 5, 1, "a"))}}, "p", api.ErrType}, {[]put{{"p", list(row(5, 5, 1, 1))}}, "p", api.ErrType}, {[]put{fine, {"q", list(row(0, 5, 7, 1, 1))}}, "q", api.ErrType},
		// Several in one table.
		{[]put{fine, {"q", list(row(0, 5, 7, 1), row(0, 5, 7, 1), row(0, 5, 8))}}, "q", api.ErrType}, {[]put{fine, {"q", list(row(0, 5, 7, 3), row(0, 5, 7, 3))}}, "q", api.ErrKey}, {[]put{fine, {"q", list(row(0, 5, 7, 3), row(0, 5, 7))}}, "q", api.ErrType},
		// Several in two: the tables come in order; references come behind all else.
		{[]put{{"p", list(row(0, 5, 1, 0), row(0, 5, 1, 0))}, {"q", list(row(0, 5, 7))}}, "p", api.ErrKey}, {[]put{{"p", list(row(0, 5, 1))}, {"q", list(row(0, 5, 7, 1), row(0, 5, 7, 1))}}, "p", api.ErrType}, {[]put{{"p", list(row(0, 5, 1))}, {"q", list(row(0, 5, 7))}}, "p", api.ErrType}, {[]put{{"p", list(row(0, 5, 1, 1), row(0, 5, 1, 2))}, {"q", list(row(0, 5, 7, 3))}}, "p", api.ErrKey},
		// Tables that the catalog has not are not asked.
		{[]put{fine, {"r", list(row(0, 5), row(5, 5, 1), row(0, 5, 1), row(0, 5, 1))}}, "", api.OK},
	} {
		wantState(t, c, state(t, x.puts...), x.name, x.errno)
	}
	wantState(t, schema.New(), state(t, put{"p", list(row(0, 5))}), "", api.OK)
}

func TestP17_2StateOrderOfTables(t *testing.T) {
	// z came first, and both others refer to it, by other columns.
	c := catalog(t, table("z", "t", "", 0), table("m", "iit", "z", 2), table("a", "it", "z", 1))
	parents := put{"z", list(row(0, 5, "x"), row(5, 9, "y"))}
	twice := list(row(0, 5, 1, "x"), row(0, 5, 1, "x"))
	wantState(t, c, state(t, parents, put{"m", list(row(0, 5, 1, 1, "x"), row(6, 9, 1, 1, "y"))}, put{"a", list(row(1, 5, 1, "x"))}), "", api.OK)
	wantState(t, c, state(t, parents, put{"m", list(row(0, 6, 1, 1, "x"))}, put{"a", list(row(4, 6, 1, "y"))}), "m", api.ErrRef)
	wantState(t, c, state(t, parents, put{"m", list(row(0, 5, 1, 1, "x"))}, put{"a", list(row(4, 6, 1, "y"))}), "a", api.ErrRef)
	// What the last table has by itself is ahead of what the one in the midst refers to.
	wantState(t, c, state(t, parents, put{"m", list(row(0, 6, 1, 1, "x"))}, put{"a", twice}), "a", api.ErrKey)
	wantState(t, c, state(t, parents, put{"m", list(row(0, 6, 1, 1))}, put{"a", twice}), "m", api.ErrType)
	wantState(t, c, state(t, put{"z", list(row(0, 5, "x"), row(4, 5, "x"))}, put{"m", list(row(0, 6, 1, 1))}, put{"a", twice}), "z", api.ErrKey)
	// A parent may refer, too.
	c = catalog(t, table("a", "i", "", 0), table("b", "ii", "a", 1), table("c", "ii", "b", 1))
	wantState(t, c, state(t, put{"a", list(row(0, 9, 1))}, put{"b", list(row(0, 9, 2, 1))}, put{"c", list(row(0, 9, 3, 2))}), "", api.OK)
	wantState(t, c, state(t, put{"a", list(row(0, 8, 1))}, put{"b", list(row(0, 9, 2, 1))}, put{"c", list(row(0, 9, 3, 2))}), "b", api.ErrRef)
	wantState(t, c, state(t, put{"a", list(row(0, 9, 1))}, put{"b", list(row(0, 8, 2, 1))}, put{"c", list(row(0, 9, 3, 2))}), "c", api.ErrRef)
}

func TestP17_2StateMaxRows(t *testing.T) {
	c := two(t)
	var l []api.Row
	for i := range 16 {
		l = append(l, row(0, 5, i, 0))
	}
	wantState(t, c, state(t, put{"p", l}), "", api.OK)
	wantState(t, c, state(t, put{"p", append(slices.Clip(l), row(0, 5, 16, 0))}), "p", api.ErrSpace)
	wantState(t, c, state(t, put{"p", append(slices.Clip(l), row(0, 5, 16))}), "p", api.ErrType)
	wantState(t, c, state(t, put{"p", append(slices.Clip(l), row(0, 5, 1, 0))}), "p", api.ErrSpace)
	// Rows that could be joined count one by one.
	var cut []api.Row
	for i := range 17 {
		cut = append(cut, row(i, i+1, 1, 0))
	}
	wantState(t, c, state(t, put{"p", cut}), "p", api.ErrSpace)
	wantState(t, c, state(t, put{"p", cut[1:]}), "", api.OK)
	wantState(t, c, state(t, put{"q", cut}), "q", api.ErrSpace)
	wantState(t, c, state(t, put{"p", l}, put{"q", append(slices.Clip(l), row(0, 5, 16, 0))}), "q", api.ErrSpace)
}

func TestP17_5Broken(t *testing.T) {
	c := two(t)
	parents := put{"p", list(row(0, 5, 1, 0), row(5, 8, 1, 9), row(0, 9, 2, 0))}
	for _, x := range []struct {
		l, want []api.Row
	}{
		{nil, nil}, {list(row(0, 8, 7, 1), row(0, 9, 8, 2)), nil}, {list(row(0, 9, 7, 1)), list(row(0, 9, 7, 1))}, {list(row(0, 5, 7, 3), row(0, 5, 8, 1)), list(row(0, 5, 7, 3))},
		// All that share a key are told, the last one too.
		{list(row(4, 8, 7, 1), row(0, 5, 7, 1), row(0, 9, 8, 2)), list(row(0, 5, 7, 1), row(4, 8, 7, 1))}, {list(row(0, 8, 7, 1), row(1, 2, 7, 2), row(6, 7, 7, 2)), list(row(0, 8, 7, 1), row(1, 2, 7, 2), row(6, 7, 7, 2))}, {list(row(0, 5, 7, 1), row(5, 8, 7, 1)), nil}, {list(row(0, 2, 7, 1), row(2, 8, 7, 1), row(7, 8, 7, 2)), list(row(2, 8, 7, 1), row(7, 8, 7, 2))},
		// One that stands there twice is told as often.
		{list(row(0, 5, 7, 1), row(0, 5, 7, 1)), list(row(0, 5, 7, 1), row(0, 5, 7, 1))}, {list(row(0, 5, 7, 1), row(0, 5, 8, 1), row(0, 5, 7, 1), row(0, 5, 7, 1)), list(row(0, 5, 7, 1), row(0, 5, 7, 1), row(0, 5, 7, 1))},
		// One that breaks both is told once; those that break one come in order.
		{list(row(0, 9, 7, 1), row(0, 9, 7, 2)), list(row(0, 9, 7, 1), row(0, 9, 7, 2))}, {list(row(0, 9, 7, 1), row(0, 9, 7, 1)), list(row(0, 9, 7, 1), row(0, 9, 7, 1))}, {list(row(0, 5, 9, 1), row(4, 6, 9, 1), row(0, 9, 6, 1), row(0, 5, 8, 1), row(3, 4, 99, 5)), list(row(0, 9, 6, 1), row(0, 5, 9, 1), row(4, 6, 9, 1), row(3, 4, 99, 5))},
		// Rows that do not fit: without a key, without a value that refers, without points, of another kind.
		{list(row(0, 5), row(0, 5)), nil}, {list(row(0, 5, 7), row(1, 2, 8)), nil}, {list(row(0, 5, 7), row(1, 2, 7)), list(row(0, 5, 7), row(1, 2, 7))}, {outside(7, 3), nil}, {append(outside(7, 3), outside(7, 3)...), nil}, {list(row(0, 5, 7, "1")), list(row(0, 5, 7, "1"))},
	} {
		s := state(t, parents, put{"q", x.l})
		wantBroken(t, c, s, "q", x.want)
		wantBroken(t, c, s, "p", nil)
	}
}

func TestP17_5BrokenOfTables(t *testing.T) {
	c := two(t)
	twice := list(row(0, 5, 1, 0), row(0, 5, 1, 0))
	s := state(t, put{"p", twice}, put{"q", list(row(0, 5, 7, 1), row(0, 6, 8, 1))}, put{"r", twice})
	wantBroken(t, c, s, "p", twice)
	// A key that stands there twice is one that covers.
	wantBroken(t, c, s, "q", list(row(0, 6, 8, 1)))
	// No such table: the state's alone is none.
	wantBroken(t, c, s, "r", nil)
	wantBroken(t, c, s, "", nil)
	wantBroken(t, c, s, "P", nil)
	wantBroken(t, c, s, "\xff", nil)
	wantBroken(t, schema.New(), s, "p", nil)
	// Without the parent's rows all that refer are broken; without the table's none.
	wantBroken(t, c, state(t, put{"q", list(row(0, 5, 8, 1), row(0, 5, 7, 1))}), "q", list(row(0, 5, 7, 1), row(0, 5, 8, 1)))
	wantBroken(t, c, state(t, put{"p", twice}), "q", nil)
	// A table without a Parent refers to nothing.
	wantBroken(t, c, state(t, put{"p", list(row(0, 5, 1, 7), row(0, 5, 2, 8))}), "p", nil)
	// The column that refers is the one that Ref tells.
	c = catalog(t, table("p", "i", "", 0), table("q", "iii", "p", 2))
	s = state(t, put{"p", list(row(0, 5, 1))}, put{"q", list(row(0, 5, 1, 1, 2), row(0, 5, 2, 3, 1))})
	wantBroken(t, c, s, "q", list(row(0, 5, 1, 1, 2)))
	wantState(t, c, s, "q", api.ErrRef)
}

func TestP1Nil(t *testing.T) {
	c, s := two(t), state(t, put{"p", list(row(0, 5, 1, 0), row(0, 5, 1, 0))})
	wantState(t, nil, nil, "", api.ErrNil)
	wantState(t, c, nil, "", api.ErrNil)
	wantState(t, nil, s, "", api.ErrNil)
	wantState(t, nil, rows.New(), "", api.ErrNil)
	wantState(t, schema.New(), nil, "", api.ErrNil)
	wantState(t, schema.New(), rows.New(), "", api.OK)
	wantBroken(t, nil, nil, "p", nil)
	wantBroken(t, c, nil, "p", nil)
	wantBroken(t, c, nil, "q", nil)
	wantBroken(t, nil, s, "p", nil)
}

func TestP1WrongInputs(t *testing.T) {
	numbers := []int{math.MinInt, math.MinInt + 1, -1001, -1000, -1, 0, 1, 999, 1000, 1001, math.MaxInt - 1, math.MaxInt}
	values := []any{math.MinInt, math.MaxInt, "", "\xff", "a\x00b", api.Value{}, api.Value{Kind: 255, Num: math.MinInt64, Str: "\xff"}}
	var all []api.Row
	for _, from := range numbers {
		for _, to := range numbers {
			v, w := values[len(all)%len(values)], values[(len(all)+3)%len(values)]
			all = append(all, row(from, to, v, w), row(from, to))
		}
	}
	wantTwice(t, all, twiceModel(all))
	for _, col := range numbers {
		wantAlone(t, all, col, all[20:40], aloneModel(all, col, all[20:40]))
		keep.Fits(api.Table{Name: "\xff", Cols: make([]api.Col, 2), Parent: "\xff", Ref: col}, all)
	}
	c := two(t)
	s := state(t, put{"p", all}, put{"q", all}, put{"\xff", all})
	wantState(t, c, s, "p", api.ErrType)
	wantBroken(t, c, s, "p", brokenModel(all, false, 0, nil))
	wantBroken(t, c, s, "q", brokenModel(all, true, 1, all))
}

func TestP1ManyRows(t *testing.T) {
	var l, parents []api.Row
	for i := range 4000 {
		at := i*7919%1999 - 1000
		l = append(l, row(at, at+1, i, i%5))
		parents = append(parents, row(at, at+1, i%5))
	}
	wantTwice(t, l, nil)
	wantTwice(t, append(slices.Clip(l), row(-1000, 1000, 3999)), list(row(-1000, 1000, 3999)))
	r, is := keep.Alone(l, 1, parents)
	if got, want := one(t, r, is), aloneModel(l, 1, parents); !sameRows(got, want) {
		t.Errorf("Alone of many = %v, not %v", got, want)
	}
	long := api.Row{Vals: make([]api.Value, 10000), Span: api.Span{From: 0, To: 1}}
	wantTwice(t, list(long, long), list(long))
	wantAlone(t, list(long), 9999, nil, list(long))
	wantAlone(t, list(long), 9999, list(long), nil)
}

// spare is a list with spare room behind its end, and behind that of each row's values, with something in it.
func spare(l ...api.Row) []api.Row {
	whole := make([]api.Row, 0, len(l)+2)
	for _, r := range l {
		vals := append(slices.Clone(r.Vals), num(501), str("spare"))
		whole = append(whole, api.Row{Vals: vals[:len(r.Vals)], Span: r.Span})
	}
	whole = append(whole, row(501, 502, 501), row(503, 504, "spare"))
	return whole[:len(l)]
}

// told is a list as a text, with all its spare room.
func told(l []api.Row) string {
	text := ""
	for _, r := range l[:cap(l)] {
		text += fmt.Sprint(r.Span, r.Vals[:cap(r.Vals)], len(r.Vals), "; ")
	}
	return text
}

func scribbleValues(r api.Row) {
	for j := range r.Vals[:cap(r.Vals)] {
		r.Vals[:cap(r.Vals)][j] = str("scribbled")
	}
}

func TestP3HandedInAndOut(t *testing.T) {
	l := spare(row(4, 9, 2, 1), row(0, 5, 2, 1), row(0, 5, 1, 1))
	parents := spare(row(5, 9, 1), row(0, 4, 1))
	cols := append(make([]api.Col, 0, 4), table("t", "ii", "", 0).Cols...)
	ahead, parentsAhead, colsAhead := told(l), told(parents), fmt.Sprint(cols[:cap(cols)])
	same := func(call string) {
		t.Helper()
		if told(l) != ahead || told(parents) != parentsAhead || fmt.Sprint(cols[:cap(cols)]) != colsAhead {
			t.Errorf("%s changes what is handed in, or answers of it", call)
		}
	}
	for range 2 {
		r, is := keep.Twice(l)
		if !is || !sameRow(r, row(0, 5, 2, 1)) {
			t.Errorf("Twice = %v", r)
		}
		same("Twice")
		scribbleValues(r)
		same("Twice")
		r, is = keep.Alone(l, 1, parents)
		if !is || !sameRow(r, row(0, 5, 1, 1)) {
			t.Errorf("Alone = %v", r)
		}
		same("Alone")
		scribbleValues(r)
		same("Alone")
		if !keep.Fits(api.Table{Cols: cols}, l) {
			t.Error("does not fit")
		}
		same("Fits")
	}
}

func TestP3StatesAndCatalogs(t *testing.T) {
	c := two(t)
	s := state(t, put{"p", list(row(0, 5, 1, 0))}, put{"q", list(row(0, 9, 7, 1), row(4, 6, 7, 1))})
	cAhead, sAhead := c.Fork(), s.Fork()
	want := list(row(0, 9, 7, 1), row(4, 6, 7, 1))
	for range 2 {
		wantState(t, c, s, "q", api.ErrKey)
		got := keep.Broken(c, s, "q")
		if !sameRows(got, want) {
			t.Errorf("Broken = %v", got)
		}
		scribbleValues(got[0])
		if !sameRow(got[1], want[1]) {
			t.Error("two rows share their values")
		}
		scribbleValues(got[1])
		clear(got[:cap(got)])
		if !c.Same(cAhead) || !s.Same(sAhead) {
			t.Error("what is handed in is changed, or lies in the answer")
		}
	}
	// One row that stands there twice has two lists of values.
	got := keep.Broken(c, state(t, put{"p", list(row(0, 5, 1, 0), row(0, 5, 1, 0))}), "p")
	scribbleValues(got[0])
	if !sameRow(got[1], row(0, 5, 1, 0)) {
		t.Error("a row and itself share their values")
	}
}

func TestP6NothingIsKept(t *testing.T) {
	l := list(row(0, 5, 1, 1), row(4, 9, 1, 1))
	for range 3 {
		wantTwice(t, l, l[:1])
		wantTwice(t, l[:1], nil)
		wantAlone(t, l, 1, list(row(0, 9, 1)), nil)
		wantAlone(t, l, 1, nil, l[:1])
		wantAlone(t, l, 1, list(row(0, 5, 1)), l[1:])
	}
}
