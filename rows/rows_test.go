package rows_test

import (
	"fmt"
	"math"
	"slices"
	"testing"

	"regesta/api"
	"regesta/rows"
)

// The calls are those of the chapter.
var (
	_ func([]api.Row) []api.Row                      = rows.Sorted
	_ func(a, b []api.Row) bool                      = rows.Same
	_ func([]api.Row) []api.Row                      = rows.Canon
	_ func([]api.Row, int) [][]api.Value             = rows.At
	_ func([]api.Row) []int                          = rows.Points
	_ func(a, b []api.Row) []api.Row                 = rows.Less
	_ func() *rows.State                             = rows.New
	_ func(*rows.State, string, []api.Row) api.Errno = (*rows.State).Put
	_ func(*rows.State, string) []api.Row            = (*rows.State).Get
	_ func(*rows.State) []string                     = (*rows.State).Names
	_ func(*rows.State, *rows.State) bool            = (*rows.State).Same
	_ func(*rows.State) *rows.State                  = (*rows.State).Fork
	_ func([]api.Row, api.Span) []api.Row            = rows.Slice
	_ func([]api.Row, api.Value) []api.Row           = rows.Keyed
	_ func([]api.Row) []api.Value                    = rows.Keys
)

func num(n int64) api.Value  { return api.Value{Kind: api.Int, Num: n} }
func str(s string) api.Value { return api.Value{Kind: api.Text, Str: s} }

// row has values of numbers, of texts, or as they are.
func row(from, to int, vals ...any) api.Row {
	r := api.Row{Span: api.Span{From: from, To: to}}
	for _, v := range vals {
		switch x := v.(type) {
		case int:
			r.Vals = append(r.Vals, num(int64(x)))
		case string:
			r.Vals = append(r.Vals, str(x))
		case api.Value:
			r.Vals = append(r.Vals, x)
		}
	}
	return r
}

func list(l ...api.Row) []api.Row { return l }

// sameRows are one by one the same; a nil list and an empty one are, too.
func sameRows(a, b []api.Row) bool {
	return slices.EqualFunc(a, b, func(x, y api.Row) bool { return slices.Equal(x.Vals, y.Vals) && x.Span == y.Span })
}

func sameValues(a, b [][]api.Value) bool { return slices.EqualFunc(a, b, slices.Equal) }

func wantRows(t *testing.T, call string, of any, got, want []api.Row) {
	t.Helper()
	if !sameRows(got, want) {
		t.Fatalf("%s of %v = %v, not %v", call, of, got, want)
	}
}

// outside are rows without points: not ahead of their end, or not within the limits.
func outside(vals ...any) []api.Row {
	var out []api.Row
	for _, s := range []api.Span{{}, {From: 5, To: 5}, {From: 6, To: 5}, {From: -1001, To: 5}, {From: 0, To: 1001}, {From: -1001, To: 1001}, {From: math.MinInt, To: math.MaxInt}, {From: math.MaxInt, To: math.MinInt}, {From: 1000, To: 1001}, {From: -1001, To: -1000}, {From: 1000, To: 1000}} {
		out = append(out, row(s.From, s.To, vals...))
	}
	return out
}

func TestP15_1Example(t *testing.T) {
	wantRows(t, "Canon", "the example", rows.Canon(list(row(0, 3, 1), row(3, 5, 1))), list(row(0, 5, 1)))
}

func TestP15_1NoRows(t *testing.T) {
	for _, none := range [][]api.Row{nil, {}} {
		if l := rows.Sorted(none); len(l) > 0 {
			t.Errorf("Sorted of none = %v", l)
		}
		if l := rows.Canon(none); len(l) > 0 {
			t.Errorf("Canon of none = %v", l)
		}
		if l := rows.At(none, 0); len(l) > 0 {
			t.Errorf("At of none = %v", l)
		}
		if l := rows.Points(none); len(l) > 0 {
			t.Errorf("Points of none = %v", l)
		}
		if l := rows.Slice(none, api.Span{From: 0, To: 1}); len(l) > 0 {
			t.Errorf("Slice of none = %v", l)
		}
		if l := rows.Keyed(none, api.Value{}); len(l) > 0 {
			t.Errorf("Keyed of none = %v", l)
		}
		if l := rows.Keys(none); len(l) > 0 {
			t.Errorf("Keys of none = %v", l)
		}
		if some := list(row(0, 1, 1)); len(rows.Less(none, some)) > 0 || !sameRows(rows.Less(some, none), some) || rows.Same(none, some) || rows.Same(some, none) {
			t.Error("none and some")
		}
		if !rows.Same(none, nil) || !rows.Same(nil, none) || !rows.Same(none, []api.Row{}) {
			t.Error("Same of none and none is false")
		}
	}
}

// The order is that of rows: value by value, then From, then To; the span does not matter where values differ.
func TestP15_1Sorted(t *testing.T) {
	sorted := list(
		row(5, 9), row(6, 7), row(math.MinInt, math.MaxInt, api.Value{}), row(0, 1, api.Value{Num: 1}), row(0, 1, -5), row(0, 9, 1), row(2, 1, 1), row(2, 2, 1), row(2, 3, 1), row(2, 4, 1), row(3, 1, 1),
		row(0, 1, 1, 1), row(-7, 1, 1, 2), row(-9, 1, 1, "a"), row(0, 1, 2), row(0, 1, api.Value{Kind: api.Int, Num: 2, Str: "x"}), row(0, 1, ""), row(0, 1, "", 0), row(0, 1, "B"), row(0, 1, "a"), row(0, 1, "a"), row(0, 1, "ab"), row(0, 1, "ä"), row(0, 1, "\xff"),
		row(0, 1, api.Value{Kind: 3}), row(math.MaxInt, math.MinInt, api.Value{Kind: 255, Num: -1}),
	)
	for shift := range sorted {
		turned := slices.Concat(sorted[shift:], sorted[:shift])
		wantRows(t, "Sorted", turned, rows.Sorted(turned), sorted)
		slices.Reverse(turned)
		wantRows(t, "Sorted", turned, rows.Sorted(turned), sorted)
		if !rows.Same(turned, sorted) || len(rows.Less(turned, sorted)) > 0 {
			t.Errorf("the same rows, turned by %d, are not the same", shift)
		}
	}
}

func TestP15_1Same(t *testing.T) {
	a, b := row(0, 3, 1), row(3, 5, 1)
	for _, x := range []struct {
		a, b []api.Row
		want bool
	}{
		{list(a, b), list(b, a), true}, {list(a, a), list(a), false}, {list(a, a, b), list(b, a, a), true}, {list(a, a, b), list(a, b, b), false}, {list(a, b), list(a), false}, {list(a), list(b), false},
		// What holds at each point does not matter, rows do.
		{list(a, b), list(row(0, 5, 1)), false}, {list(row(2, 2, 1)), nil, false}, {list(row(2, 2, 1)), list(row(2, 2, 1)), true}, {list(row(2, 2, 1)), list(row(3, 3, 1)), false},
		{list(row(0, 1)), nil, false}, {list(row(0, 1)), list(row(0, 1)), true}, {list(row(0, 1)), list(api.Row{Vals: []api.Value{}, Span: api.Span{From: 0, To: 1}}), true},
		{list(row(0, 3, 1)), list(row(0, 3, 2)), false}, {list(row(0, 3, 1)), list(row(0, 3, "1")), false}, {list(row(0, 3, 1)), list(row(0, 3, 1, 1)), false}, {list(row(0, 3, "a")), list(row(0, 3, "A")), false},
		{list(row(0, 3, api.Value{Kind: api.Int, Num: 1, Str: "a"})), list(row(0, 3, 1)), false}, {list(row(1, 3, 1)), list(row(0, 3, 1)), false}, {list(row(0, 4, 1)), list(row(0, 3, 1)), false},
	} {
		if got := rows.Same(x.a, x.b); got != x.want {
			t.Errorf("Same(%v, %v) = %v", x.a, x.b, got)
		}
		if got := rows.Same(x.b, x.a); got != x.want {
			t.Errorf("Same(%v, %v) = %v", x.b, x.a, got)
		}
	}
}

func TestP15_1Canon(t *testing.T) {
	for _, x := range []struct{ l, want []api.Row }{
		{list(row(0, 3, 1)), list(row(0, 3, 1))}, {list(row(0, 3, 1), row(0, 3, 1)), list(row(0, 3, 1))},
		{list(row(0, 3, 1), row(2, 5, 1)), list(row(0, 5, 1))}, {list(row(0, 9, 1), row(2, 5, 1)), list(row(0, 9, 1))}, {list(row(2, 5, 1), row(0, 9, 1), row(8, 9, 1), row(0, 1, 1)), list(row(0, 9, 1))},
		{list(row(0, 3, 1), row(4, 5, 1)), list(row(0, 3, 1), row(4, 5, 1))}, {list(row(4, 5, 1), row(0, 3, 1), row(3, 4, 1)), list(row(0, 5, 1))},
		{list(row(0, 3, 1), row(3, 5, 2)), list(row(0, 3, 1), row(3, 5, 2))}, {list(row(0, 3, 1), row(3, 5, "1")), list(row(0, 3, 1), row(3, 5, "1"))}, {list(row(3, 5, 1), row(0, 3, 1, 1)), list(row(3, 5, 1), row(0, 3, 1, 1))},
		{list(row(0, 3, 2), row(0, 3, 1), row(3, 4, 2), row(3, 4, 1)), list(row(0, 4, 1), row(0, 4, 2))}, {list(row(0, 3, 1, "a"), row(3, 5, 1, "b"), row(5, 6, 1, "a")), list(row(0, 3, 1, "a"), row(5, 6, 1, "a"), row(3, 5, 1, "b"))},
		{list(row(3, 5), row(0, 3)), list(row(0, 5))}, {list(row(0, 3), row(3, 5, 1)), list(row(0, 3), row(3, 5, 1))}, {list(row(4, 5), row(0, 3)), list(row(0, 3), row(4, 5))},
		{list(row(-1000, 0, 1), row(0, 1000, 1)), list(row(-1000, 1000, 1))}, {list(row(-1000, -999, 1), row(999, 1000, 1)), list(row(-1000, -999, 1), row(999, 1000, 1))},
		// A row that is not right joins nothing.
		{list(row(0, 3, 1), row(3, 3, 1), row(3, 1001, 1), row(-1001, 1000, 1), row(4, 5, 1), row(4, 3, 1)), list(row(0, 3, 1), row(4, 5, 1))}, {outside(1), nil}, {outside(), nil},
		// Values that are not right are values.
		{list(row(0, 3, api.Value{}), row(3, 4, api.Value{})), list(row(0, 4, api.Value{}))}, {list(row(0, 3, api.Value{Kind: 9, Str: "a"}), row(3, 4, api.Value{Kind: 9, Str: "b"})), list(row(0, 3, api.Value{Kind: 9, Str: "a"}), row(3, 4, api.Value{Kind: 9, Str: "b"}))},
	} {
		got := rows.Canon(x.l)
		wantRows(t, "Canon", x.l, got, x.want)
		wantRows(t, "Canon of Canon", x.l, rows.Canon(got), x.want)
		turned := slices.Clone(x.l)
		slices.Reverse(turned)
		wantRows(t, "Canon", turned, rows.Canon(turned), x.want)
		wantRows(t, "Canon", "a list twice", rows.Canon(slices.Concat(x.l, turned)), x.want)
	}
}

func TestP15_1At(t *testing.T) {
	l := list(row(0, 3, 2), row(2, 5, 1), row(2, 3, 1), row(2, 5), row(2, 9, 1, "b"), row(1, 3, 1, "a"), row(2, 2, 7), row(-1001, 1001, 8), row(2, 1001, 9), row(-1000, -999, 5), row(999, 1000, 6))
	for p, want := range map[int][][]api.Value{
		math.MinInt: nil, -1001: nil, -1000: {{num(5)}}, -999: nil, -1: nil, 0: {{num(2)}}, 1: {{num(1), str("a")}, {num(2)}}, 2: {{}, {num(1)}, {num(1), str("a")}, {num(1), str("b")}, {num(2)}},
		3: {{}, {num(1)}, {num(1), str("b")}}, 4: {{}, {num(1)}, {num(1), str("b")}}, 5: {{num(1), str("b")}}, 8: {{num(1), str("b")}}, 9: nil, 998: nil, 999: {{num(6)}}, 1000: nil, 1001: nil, math.MaxInt: nil,
	} {
		if got := rows.At(l, p); !sameValues(got, want) {
			t.Errorf("At(%d) = %v, not %v", p, got, want)
		}
	}
	for _, p := range []int{math.MinInt, -1001, -1000, -1, 0, 4, 5, 999, 1000, 1001, math.MaxInt} {
		if got := rows.At(outside(1), p); len(got) > 0 {
			t.Errorf("At(%d) of rows that are not right = %v", p, got)
		}
	}
}

func TestP15_1Points(t *testing.T) {
	for _, x := range []struct {
		l    []api.Row
		want []int
	}{
		{list(row(0, 3, 1)), []int{0, 3}}, {list(row(3, 5, 1), row(0, 3, 2)), []int{0, 3, 5}}, {list(row(0, 3, 1), row(0, 3, 1)), []int{0, 3}}, {list(row(0, 9, 1), row(2, 5, 1), row(5, 9, 3), row(0, 1)), []int{0, 1, 2, 5, 9}},
		{list(row(-1000, 1000)), []int{-1000, 1000}}, {outside(1), nil}, {append(outside(1), row(-3, -2, 1)), []int{-3, -2}},
	} {
		if got := rows.Points(x.l); !slices.Equal(got, x.want) {
			t.Errorf("Points(%v) = %v, not %v", x.l, got, x.want)
		}
	}
}

func TestP15_1Less(t *testing.T) {
	a, b, c := row(0, 3, 1), row(3, 5, 1), row(0, 3, 2)
	for _, x := range []struct{ a, b, want []api.Row }{
		{list(c, b, a), nil, list(a, b, c)}, {list(c, b, a), list(b), list(a, c)}, {list(c, b, a), list(a, c, b), nil}, {list(a, a, a), list(a), list(a, a)}, {list(a), list(a, a, a), nil}, {list(b, a, b, a), list(b, c, b, b), list(a, a)}, {list(c, a, c), list(c, a), list(c)},
		{list(a), list(c), list(a)}, {list(c), list(a), list(c)},
		// Rows are held against one another, not what holds at a point.
		{list(row(0, 5, 1)), list(a, b), list(row(0, 5, 1))}, {list(row(2, 2, 1), row(0, 1)), list(row(3, 3, 1)), list(row(0, 1), row(2, 2, 1))}, {outside(1), outside(1), nil}, {outside(1), outside(2), rows.Sorted(outside(1))}, {list(row(0, 1)), list(row(0, 1)), nil},
	} {
		wantRows(t, "Less", [][]api.Row{x.a, x.b}, rows.Less(x.a, x.b), x.want)
	}
}

// Functions that do not ask for points have rows whose span is not right, too.
func TestP15_1SpansThatAreNotRight(t *testing.T) {
	wrong := outside(1)
	for i, r := range wrong {
		l := list(row(0, 3, 1), r, row(0, 1, 0))
		if got := rows.Sorted(l); len(got) != 3 || countModel(got, r) != 1 {
			t.Errorf("Sorted(%v) = %v", l, got)
		}
		wantRows(t, "Keyed", l, rows.Keyed(l, num(1)), rows.Sorted(l[:2]))
		wantRows(t, "Less", l, rows.Less(l, list(l[0], l[2])), list(r))
		if rows.Same(l, list(l[0], l[2])) {
			t.Errorf("Same passes over %v", r)
		}
		wantRows(t, "Slice", l, rows.Slice(l, api.Span{From: -1000, To: 1000}), list(l[2], l[0]))
		wantRows(t, "Canon", l, rows.Canon(l), list(l[2], l[0]))
		alone := list(row(r.Span.From, r.Span.To, i))
		if got := rows.Keys(alone); !slices.Equal(got, []api.Value{num(int64(i))}) {
			t.Errorf("Keys(%v) = %v", alone, got)
		}
	}
}

func TestP15_5Slice(t *testing.T) {
	l := list(row(5, 9, 2), row(0, 9, 1), row(3, 5, 1), row(0, 3), row(0, 9, 1))
	for _, x := range []struct {
		s    api.Span
		want []api.Row
	}{
		{api.Span{From: 0, To: 9}, list(row(0, 3), row(0, 9, 1), row(0, 9, 1), row(3, 5, 1), row(5, 9, 2))}, {api.Span{From: -1000, To: 1000}, list(row(0, 3), row(0, 9, 1), row(0, 9, 1), row(3, 5, 1), row(5, 9, 2))},
		// Behind the cut the order is another one.
		{api.Span{From: 4, To: 20}, list(row(4, 5, 1), row(4, 9, 1), row(4, 9, 1), row(5, 9, 2))}, {api.Span{From: 2, To: 4}, list(row(2, 3), row(2, 4, 1), row(2, 4, 1), row(3, 4, 1))},
		{api.Span{From: 3, To: 5}, list(row(3, 5, 1), row(3, 5, 1), row(3, 5, 1))}, {api.Span{From: 8, To: 9}, list(row(8, 9, 1), row(8, 9, 1), row(8, 9, 2))},
		// It meets rows alone, or lies apart from all.
		{api.Span{From: 9, To: 12}, nil}, {api.Span{From: -4, To: 0}, nil}, {api.Span{From: 20, To: 30}, nil},
		{api.Span{}, nil}, {api.Span{From: 4, To: 4}, nil}, {api.Span{From: 5, To: 4}, nil}, {api.Span{From: -1001, To: 9}, nil}, {api.Span{From: 0, To: 1001}, nil}, {api.Span{From: math.MinInt, To: math.MaxInt}, nil}, {api.Span{From: math.MaxInt, To: math.MinInt}, nil},
	} {
		wantRows(t, "Slice", []any{l, x.s}, rows.Slice(l, x.s), x.want)
	}
	wantRows(t, "Slice", "rows that are not right", rows.Slice(outside(1), api.Span{From: 0, To: 5}), nil)
}

func TestP15_5KeyedAndKeys(t *testing.T) {
	odd := api.Value{Kind: api.Int, Num: 1, Str: "x"}
	l := list(row(0, 3, 2, 1), row(5, 6, "a"), row(3, 5, 1, 9), row(0, 3, 1, 9), row(0, 3), row(1, 0, 1), row(0, 3, 1, 9), row(0, 1, "1"), row(0, 1, odd), row(0, 1, api.Value{}), row(0, 1, "", 1), row(0, 1, -1))
	for _, x := range []struct {
		v    api.Value
		want []api.Row
	}{
		{num(1), list(row(1, 0, 1), row(0, 3, 1, 9), row(0, 3, 1, 9), row(3, 5, 1, 9))}, {num(2), list(row(0, 3, 2, 1))}, {num(9), nil}, {num(0), nil}, {str("1"), list(row(0, 1, "1"))}, {str("a"), list(row(5, 6, "a"))}, {str("A"), nil}, {str(""), list(row(0, 1, "", 1))},
		{api.Value{}, list(row(0, 1, api.Value{}))}, {odd, list(row(0, 1, odd))}, {api.Value{Kind: 9}, nil},
	} {
		wantRows(t, "Keyed", x.v, rows.Keyed(l, x.v), x.want)
	}
	wantRows(t, "Keyed", "a row without values", rows.Keyed(list(row(0, 3)), api.Value{}), nil)
	want := []api.Value{{}, num(-1), num(1), odd, num(2), str(""), str("1"), str("a")}
	if got := rows.Keys(l); !slices.Equal(got, want) {
		t.Errorf("Keys = %v, not %v", got, want)
	}
	if got := rows.Keys(list(row(0, 3), row(3, 4))); len(got) > 0 {
		t.Errorf("Keys of rows without values = %v", got)
	}
}

func TestP15_2State(t *testing.T) {
	s := rows.New()
	if len(s.Names()) > 0 || len(s.Get("t")) > 0 || len(s.Get("")) > 0 {
		t.Error("a new state has something")
	}
	if e := s.Put("", list(row(0, 1, 1))); e != api.ErrForm || len(s.Names()) > 0 || len(s.Get("")) > 0 {
		t.Errorf("Put of an empty name = %d, with %q", e, s.Names())
	}
	for _, name := range []string{"t", "a", "Z", "to", "ä", "\xff", " ", "t\x00", "table"} {
		if e := s.Put(name, nil); e != api.OK {
			t.Errorf("Put(%q) = %d", name, e)
		}
	}
	if got, want := s.Names(), []string{" ", "Z", "a", "t", "t\x00", "table", "to", "ä", "\xff"}; !slices.Equal(got, want) {
		t.Errorf("Names() = %q, not %q", got, want)
	}
	// Rows are kept as they are, but for their order.
	l := slices.Concat(outside(1), list(row(3, 5, 1), row(0, 3, 1), row(0, 3, 1), row(0, 1)))
	if e := s.Put("t", l); e != api.OK {
		t.Errorf("Put = %d", e)
	}
	wantRows(t, "Get", "t", s.Get("t"), sortedModel(l))
	wantRows(t, "Get", "a", s.Get("a"), nil)
	wantRows(t, "Get", "none", s.Get("none"), nil)
	if e := s.Put("t", list(row(0, 1, 2))); e != api.OK {
		t.Errorf("Put again = %d", e)
	}
	wantRows(t, "Get", "t", s.Get("t"), list(row(0, 1, 2)))
	if e := s.Put("t", nil); e != api.OK || len(s.Get("t")) > 0 || len(s.Names()) != 9 || !slices.Contains(s.Names(), "t") {
		t.Errorf("Put of no rows = %d: %v, %q", e, s.Get("t"), s.Names())
	}
}

func made(t *testing.T, put ...named) *rows.State {
	t.Helper()
	s := rows.New()
	for _, x := range put {
		if e := s.Put(x.name, x.rows); e != api.OK {
			t.Fatalf("Put(%q, %v) = %d", x.name, x.rows, e)
		}
	}
	return s
}

func TestP15_2Same(t *testing.T) {
	a, b := row(0, 3, 1), row(3, 5, 1)
	one := made(t, named{"t", list(a, b)})
	for _, x := range []struct {
		a, b *rows.State
		want bool
	}{
		{nil, nil, false}, {nil, one, false}, {nil, rows.New(), false}, {rows.New(), rows.New(), true}, {one, one, true}, {one, one.Fork(), true}, {one, rows.New(), false},
		{one, made(t, named{"t", list(b, a)}), true}, {one, made(t, named{"t", list(a)}), false}, {one, made(t, named{"t", list(a, b, b)}), false}, {one, made(t, named{"s", list(a, b)}), false}, {one, made(t, named{"t", list(row(0, 5, 1))}), false},
		{one, made(t, named{"t", list(a, b)}, named{"u", nil}), false}, {made(t, named{"u", nil}), rows.New(), false}, {made(t, named{"u", nil}), made(t, named{"v", nil}), false}, {made(t, named{"u", nil}), made(t, named{"u", nil}), true}, {made(t, named{"u", nil}), made(t, named{"u", list(a)}), false},
		{made(t, named{"t", list(a)}, named{"u", list(b)}), made(t, named{"u", list(b)}, named{"t", list(a)}), true}, {made(t, named{"t", list(a)}, named{"u", list(b)}), made(t, named{"t", list(b)}, named{"u", list(a)}), false},
		{made(t, named{"t", list(a)}, named{"t", nil}), made(t, named{"t", nil}), true}, {made(t, named{"t", outside(1)}), made(t, named{"t", nil}), false},
	} {
		if got := x.a.Same(x.b); got != x.want {
			t.Errorf("Same of %q and %q = %v", x.a.Names(), x.b.Names(), got)
		}
		if got := x.b.Same(x.a); got != x.want {
			t.Errorf("Same of %q and %q = %v", x.b.Names(), x.a.Names(), got)
		}
	}
}

func TestP1Nil(t *testing.T) {
	var s *rows.State
	if s.Put("t", list(row(0, 1, 1))) != api.ErrNil || s.Put("", nil) != api.ErrNil {
		t.Error("Put of nil")
	}
	if len(s.Get("t")) > 0 || len(s.Get("")) > 0 || len(s.Names()) > 0 || s.Fork() != nil {
		t.Error("nil has something")
	}
}

func TestP1Extremes(t *testing.T) {
	numbers := []int{math.MinInt, math.MinInt + 1, -1001, -1000, -1, 0, 1, 999, 1000, 1001, math.MaxInt - 1, math.MaxInt}
	values := []any{math.MinInt, math.MaxInt, "", "\xff", "a\x00b", api.Value{}, api.Value{Kind: 255, Num: math.MinInt64, Str: "\xff"}}
	var all []api.Row
	for _, from := range numbers {
		for _, to := range numbers {
			all = append(all, row(from, to, values[len(all)%len(values)]), row(from, to))
		}
	}
	agree(t, all, -1000, 1000)
	agreeOnTwo(t, all, all[7:])
	for _, r := range all {
		wantRows(t, "Slice", r.Span, rows.Slice(all, r.Span), sliceModel(all, r.Span))
	}
	long := api.Row{Vals: make([]api.Value, 10000), Span: api.Span{From: 0, To: 1}}
	wantRows(t, "Canon", "rows of many values", rows.Canon(list(long, long)), list(long))
}

func TestP1ManyRows(t *testing.T) {
	var l []api.Row
	for i := range 30000 {
		at := i * 7919 % 1999
		l = append(l, row(at-1000, at-999, i%5), row(0, 0, i))
	}
	var want []api.Row
	for v := range 5 {
		want = append(want, row(-1000, 999, v))
	}
	wantRows(t, "Canon", "many", rows.Canon(l), want)
	if got := rows.Less(l, l[1:]); !sameRows(got, l[:1]) || !rows.Same(l, slices.Concat(l[9:], l[:9])) || len(rows.Keys(l)) != 30000 {
		t.Error("many rows")
	}
}

// spare is a list with spare room behind its end, and behind that of each row's values, with something in it.
func spare(l ...api.Row) []api.Row {
	whole := make([]api.Row, 0, len(l)+2)
	for _, r := range l {
		vals := append(slices.Clone(r.Vals), num(501), str("spare"))
		whole = append(whole, api.Row{Vals: vals[:len(r.Vals)], Span: r.Span})
	}
	whole = append(whole, row(501, 502, 501), row(503, 504, "spare"))
	return whole[:len(l)]
}

// told is a list as a text, with all its spare room.
func told(l []api.Row) string {
	text := ""
	for _, r := range l[:cap(l)] {
		text += fmt.Sprint(r.Span, r.Vals[:cap(r.Vals)], len(r.Vals), "; ")
	}
	return text
}

// scribble writes over all of a list, its spare room and its rows' values too.
func scribble(l []api.Row) {
	for i := range l[:cap(l)] {
		r := &l[:cap(l)][i]
		for j := range r.Vals[:cap(r.Vals)] {
			r.Vals[:cap(r.Vals)][j] = str("scribbled")
		}
		*r = row(-77, 77, "scribbled", 7)
	}
}

// answers are all calls that answer rows of rows that are handed in.
func answers() map[string]func(l []api.Row) []api.Row {
	return map[string]func(l []api.Row) []api.Row{
		"Sorted": rows.Sorted,
		"Canon":  rows.Canon,
		"Less":   func(l []api.Row) []api.Row { return rows.Less(l, list(row(0, 3, 2))) },
		"Slice":  func(l []api.Row) []api.Row { return rows.Slice(l, api.Span{From: -1000, To: 1000}) },
		"Keyed":  func(l []api.Row) []api.Row { return rows.Keyed(l, num(1)) },
		"At": func(l []api.Row) []api.Row {
			var out []api.Row
			for _, vals := range rows.At(l, 2) {
				out = append(out, api.Row{Vals: vals})
			}
			return out
		},
		"Get": func(l []api.Row) []api.Row {
			s := rows.New()
			s.Put("t", l)
			return s.Get("t")
		},
		"Get of a fork": func(l []api.Row) []api.Row {
			s := rows.New()
			s.Put("t", l)
			return s.Fork().Get("t")
		},
	}
}

func handedIn() []api.Row {
	return spare(row(2, 4, 1, "a"), row(0, 3, 2), row(0, 3, 1, "a"), row(6, 9, 1, "a"), row(0, 4, 1, "b"), row(0, 3), row(1, 1, 1), row(0, 3, 1, "a"))
}

func TestP3WhatIsHandedInStays(t *testing.T) {
	for name, call := range answers() {
		l := handedIn()
		ahead := told(l)
		got := call(l)
		if told(l) != ahead {
			t.Errorf("%s changes what is handed in: %s", name, told(l))
		}
		scribble(got)
		if told(l) != ahead {
			t.Errorf("what %s answers lies in what is handed in", name)
		}
		fresh := call(l)
		kept := fmt.Sprint(fresh)
		scribble(l)
		if fmt.Sprint(fresh) != kept {
			t.Errorf("what is handed in lies in what %s answers", name)
		}
	}
	l, o := handedIn(), handedIn()
	ahead := told(l)
	rows.Points(l)
	keys := rows.Keys(l)
	rows.Same(l, o)
	rows.Less(o, l)
	for i := range keys[:cap(keys)] {
		keys[:cap(keys)][i] = str("scribbled")
	}
	if told(l) != ahead || told(o) != ahead {
		t.Error("what is handed in is changed")
	}
}

// No two lists of one answer share anything: what is written into one row shows in no other one.
func TestP3NoTwoListsShare(t *testing.T) {
	for name, call := range answers() {
		got := call(handedIn())
		for i, r := range got {
			ahead := fmt.Sprint(got[:i], got[i+1:])
			for j := range r.Vals[:cap(r.Vals)] {
				r.Vals[:cap(r.Vals)][j] = str("scribbled")
			}
			if after := fmt.Sprint(got[:i], got[i+1:]); after != ahead {
				t.Errorf("%s: row %d shares its values with another one: %s", name, i, after)
			}
		}
	}
}

func TestP3StatesKeepTheirOwn(t *testing.T) {
	s := rows.New()
	l := handedIn()
	want := sortedModel(handedIn())
	s.Put("t", l)
	s.Put("a", nil)
	fork := s.Fork()
	scribble(l)
	for _, x := range []*rows.State{s, fork} {
		wantRows(t, "Get", "a list that was handed in", x.Get("t"), want)
		scribble(x.Get("t"))
		names := x.Names()
		for i := range names[:cap(names)] {
			names[:cap(names)][i] = "scribbled"
		}
		wantRows(t, "Get", "a list that was handed out", s.Get("t"), want)
		wantRows(t, "Get", "a list that was handed out", fork.Get("t"), want)
		if got := x.Names(); !slices.Equal(got, []string{"a", "t"}) {
			t.Errorf("Names() = %q", got)
		}
	}
}

func TestP4Forks(t *testing.T) {
	a, b := row(0, 3, 1), row(3, 5, 1)
	s := made(t, named{"t", list(a)})
	fork := s.Fork()
	if !s.Same(fork) || !fork.Same(s) {
		t.Error("a fork is not the same")
	}
	s.Put("t", list(b))
	s.Put("u", nil)
	wantRows(t, "Get", "the fork", fork.Get("t"), list(a))
	if got := fork.Names(); !slices.Equal(got, []string{"t"}) {
		t.Errorf("the fork has %q", got)
	}
	fork.Put("t", nil)
	fork.Put("v", list(a))
	again := fork.Fork()
	again.Put("v", list(b))
	wantRows(t, "Get", "the state", s.Get("t"), list(b))
	wantRows(t, "Get", "the fork", fork.Get("v"), list(a))
	if got := s.Names(); !slices.Equal(got, []string{"t", "u"}) || s.Same(fork) || fork.Same(again) {
		t.Errorf("the state has %q", got)
	}
	if empty := rows.New().Fork(); empty == nil || empty.Put("t", nil) != api.OK {
		t.Error("the fork of a state without tables")
	}
}

// What a call answers hangs on its arguments and the state alone.
func TestP6NothingIsKept(t *testing.T) {
	l := handedIn()
	for name, call := range answers() {
		ahead := fmt.Sprint(call(l))
		other := rows.New()
		other.Put("t", list(row(0, 1, 5)))
		call(list(row(7, 8, 7)))
		if after := fmt.Sprint(call(l)); after != ahead {
			t.Errorf("%s: %s, then %s", name, ahead, after)
		}
	}
	if got := rows.New().Names(); len(got) > 0 {
		t.Errorf("a new state has %q", got)
	}
}
