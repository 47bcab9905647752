package query_test

import (
	"fmt"
	"math"
	"slices"
	"testing"

	"regesta/api"
	"regesta/past"
	"regesta/query"
	"regesta/rows"
	"regesta/schema"
)

// The calls are those of the chapter.
var (
	_ func(*schema.Catalog, *rows.State, *past.Past, api.Stmt) ([]api.Out, api.Errno) = query.Run
	_ func(a, b []api.Out, i, j int) []api.Out                                        = query.Join
	_ func(l []api.Out, col int) []api.Out                                            = query.Ordered
	_ func(l []api.Out, cols []api.Col, names []string) []api.Out                     = query.Columns
	_ func(a, b []api.Out) bool                                                       = query.Same
)

func num(n int64) api.Value  { return api.Value{Kind: api.Int, Num: n} }
func str(s string) api.Value { return api.Value{Kind: api.Text, Str: s} }

// values are numbers, texts, or as they are.
func values(vals ...any) []api.Value {
	var l []api.Value
	for _, v := range vals {
		switch x := v.(type) {
		case int:
			l = append(l, num(int64(x)))
		case string:
			l = append(l, str(x))
		case api.Value:
			l = append(l, x)
		}
	}
	return l
}

func row(from, to int, vals ...any) api.Row {
	return api.Row{Vals: values(vals...), Span: span(from, to)}
}

// still is an out row without system time; during has one.
func still(from, to int, vals ...any) api.Out {
	return api.Out{Vals: values(vals...), Span: span(from, to)}
}

func during(sys api.Span, from, to int, vals ...any) api.Out {
	return api.Out{Vals: values(vals...), Span: span(from, to), Sys: sys}
}

func list(l ...api.Row) []api.Row { return l }
func outs(l ...api.Out) []api.Out { return l }

func span(from, to int) api.Span { return api.Span{From: from, To: to} }

// told is a thing as a text; nil lists and empty ones are told alike.
func told(x any) string { return fmt.Sprintf("%v", x) }

func want(t *testing.T, call string, got, want any) {
	t.Helper()
	if told(got) != told(want) {
		t.Fatalf("%s = %v, not %v", call, got, want)
	}
}

const clock = 1 << 30

// wrong are values that are not right, no two of which are one.
func wrong() []api.Value {
	return []api.Value{{}, {Num: 1}, {Str: "1"}, {Kind: 9}, {Kind: 9, Num: 1}, {Kind: api.Int, Num: 1, Str: "x"}, {Kind: api.Text, Num: 1}, str("\xff"), str("more than eight")}
}

func TestP21_1JoinOfNoRows(t *testing.T) {
	some := outs(still(0, 5, 1))
	for _, none := range [][]api.Out{nil, {}} {
		for _, other := range [][]api.Out{nil, {}, some} {
			want(t, "Join of none", query.Join(none, other, 0, 0), "[]")
			want(t, "Join with none", query.Join(other, none, 0, 0), "[]")
		}
	}
	want(t, "Join of both", query.Join(some, some, 0, 0), outs(still(0, 5, 1, 1)))
}

func TestP21_1JoinOfPlaces(t *testing.T) {
	a := outs(still(0, 5, 1, 2), still(0, 5, 3))
	b := outs(still(0, 5, 2, 1, 3), still(0, 5), still(0, 5, 3, 7))
	for _, x := range []struct {
		i, j int
		want []api.Out
	}{
		{0, 0, outs(still(0, 5, 3, 3, 7))}, {0, 1, outs(still(0, 5, 1, 2, 2, 1, 3))}, {0, 2, outs(still(0, 5, 3, 2, 1, 3))}, {1, 0, outs(still(0, 5, 1, 2, 2, 1, 3))}, {1, 1, nil}, {1, 2, nil}, {2, 0, nil}, {2, 3, nil}, {0, 3, nil},
		// Of rows of which neither has a value there, none is the same as none.
		{7, 7, nil}, {-1, -1, nil}, {-1, 0, nil}, {0, -1, nil}, {math.MinInt, 0, nil}, {0, math.MinInt, nil}, {math.MaxInt, 0, nil}, {0, math.MaxInt, nil}, {math.MaxInt, math.MaxInt, nil}, {math.MinInt, math.MinInt, nil},
	} {
		want(t, fmt.Sprintf("Join at %d and %d", x.i, x.j), query.Join(a, b, x.i, x.j), x.want)
	}
	// Rows without any value have no place at all.
	want(t, "Join without values", query.Join(outs(still(0, 5)), outs(still(0, 5)), 0, 0), "[]")
}

func TestP21_1JoinOfValues(t *testing.T) {
	all := append(wrong(), num(0), num(1), num(-1), num(math.MinInt64), str(""), str("1"), str("x"), str("X"))
	for i, v := range all {
		for j, w := range all {
			got := query.Join(outs(still(0, 5, v)), outs(still(0, 5, w)), 0, 0)
			if i == j {
				want(t, fmt.Sprintf("Join of %v with itself", v), got, outs(still(0, 5, v, w)))
			} else {
				want(t, fmt.Sprintf("Join of %v with %v", v, w), got, "[]")
			}
		}
	}
	// The same but of other kinds.
	for _, v := range []api.Value{{Kind: api.Text, Num: 1}, {Num: 1}, {Kind: 9, Num: 1}, str("1")} {
		want(t, fmt.Sprintf("Join of 1 with %v", v), query.Join(outs(still(0, 5, 1)), outs(still(0, 5, v)), 0, 0), "[]")
	}
}

func TestP21_1JoinOfSpans(t *testing.T) {
	for _, x := range []struct {
		a, b, both api.Span
	}{
		{span(0, 5), span(0, 5), span(0, 5)}, {span(0, 5), span(4, 9), span(4, 5)}, {span(4, 9), span(0, 5), span(4, 5)}, {span(0, 9), span(3, 4), span(3, 4)}, {span(-1000, 1000), span(-5, 5), span(-5, 5)}, {span(-1000, -999), span(-1000, 1000), span(-1000, -999)}, {span(999, 1000), span(0, 1000), span(999, 1000)},
		// They meet, or lie apart.
		{span(0, 5), span(5, 9), none}, {span(5, 9), span(0, 5), none}, {span(0, 2), span(7, 9), none},
		// One of them has no points, being empty, turned, or beyond the limits.
		{span(3, 3), span(0, 9), none}, {span(0, 9), span(9, 0), none}, {none, none, none}, {span(-1001, 5), span(0, 9), none}, {span(0, 9), span(0, 1001), none}, {span(-2000, 5), span(0, 2000), none}, {span(math.MinInt, math.MaxInt), span(0, 9), none}, {span(math.MinInt, math.MaxInt), span(math.MinInt, math.MaxInt), none}, {span(math.MaxInt, math.MinInt), span(0, 9), none},
	} {
		for _, sys := range []api.Span{none, span(1, 4)} {
			var wanted []api.Out
			if x.both != none {
				wanted = outs(during(sys, x.both.From, x.both.To, 1, "a", "b", 1))
			}
			a, b := api.Out{Vals: values(1, "a"), Span: x.a, Sys: sys}, api.Out{Vals: values("b", 1), Span: x.b, Sys: sys}
			want(t, fmt.Sprintf("Join of the spans %v and %v", x.a, x.b), query.Join(outs(a), outs(b), 0, 1), wanted)
		}
	}
}

var none = api.Span{}

func TestP21_1JoinOfSys(t *testing.T) {
	apart := span(-7, -7)
	for _, x := range []struct {
		a, b, both api.Span
	}{
		{none, none, none}, {none, span(0, 1), apart}, {none, span(0, 9), apart}, {none, span(1, 9), apart}, {none, span(0, math.MaxInt), apart}, {none, span(5, 5), apart},
		{span(1, 5), span(1, 5), span(1, 5)}, {span(1, 5), span(4, 9), span(4, 5)}, {span(0, 1), span(0, 9), span(0, 1)}, {span(0, 9), span(3, 4), span(3, 4)}, {span(3, 9), span(0, 4), span(3, 4)}, {span(clock, clock+1), span(2, clock+1), span(clock, clock+1)}, {span(2, api.Forever), span(7, api.Forever), span(7, api.Forever)}, {span(2000, 3000), span(1, math.MaxInt), span(2000, 3000)},
		// They meet, or lie apart, or have no instants.
		{span(1, 5), span(5, 9), apart}, {span(1, 2), span(7, 9), apart}, {span(3, 3), span(3, 3), apart}, {span(3, 3), span(1, 9), apart}, {span(9, 1), span(1, 9), apart}, {span(9, 1), span(9, 1), apart}, {span(math.MaxInt, math.MinInt), span(math.MinInt, math.MaxInt), apart},
	} {
		for range 2 {
			var wanted []api.Out
			if x.both != apart {
				wanted = outs(during(x.both, 2, 5, 1, 1))
			}
			got := query.Join(outs(during(x.a, 0, 5, 1)), outs(during(x.b, 2, 9, 1)), 0, 0)
			want(t, fmt.Sprintf("Join of the Sys %v and %v", x.a, x.b), got, wanted)
			x.a, x.b = x.b, x.a
		}
	}
}

func TestP21_1JoinInOrderAndAsOften(t *testing.T) {
	a := outs(still(2, 9, 2), still(0, 5, 1, 8), still(0, 5, 1), still(0, 5, 1), during(span(1, 4), 0, 9, 1))
	b := outs(still(3, 9, 1), still(0, 4, 1), still(0, 9, 2), still(0, 4, 1), during(span(3, 9), 0, 9, 1), during(span(1, 3), 0, 9, 1))
	want(t, "Join", query.Join(a, b, 0, 0), outs(
		still(0, 4, 1, 1), still(0, 4, 1, 1), still(0, 4, 1, 1), still(0, 4, 1, 1),
		during(span(1, 3), 0, 9, 1, 1), during(span(3, 4), 0, 9, 1, 1),
		still(3, 5, 1, 1), still(3, 5, 1, 1),
		still(0, 4, 1, 8, 1), still(0, 4, 1, 8, 1), still(3, 5, 1, 8, 1),
		still(2, 9, 2, 2),
	))
}

func TestP21_1OrderedAlone(t *testing.T) {
	// The order of out rows: value by value, a shorter one ahead; Span.From, Span.To, Sys.From, Sys.To.
	inOrder := outs(
		still(7, 8), still(0, 5, api.Value{}), still(0, 5, api.Value{Num: 1}), still(9, 10, 1), still(0, 5, 1, -3),
		still(0, 3, 1, 2), still(0, 5, 1, 2), during(span(0, 1), 0, 5, 1, 2), during(span(0, 7), 0, 5, 1, 2), during(span(1, 0), 0, 5, 1, 2), during(span(1, 3), 0, 5, 1, 2), during(span(2, 3), 0, 5, 1, 2), during(span(0, 1), 0, 6, 1, 2), during(span(0, 1), 1, 2, 1, 2), still(2, 1, 1, 2),
		still(0, 5, 1, "a"), still(0, 5, 2), still(0, 5, "", 9), still(0, 5, "1"), still(0, 5, "a"), still(0, 5, api.Value{Kind: 9}),
	)
	for _, col := range []int{-1, -7, math.MinInt, 4, 100, math.MaxInt} {
		for start := range inOrder {
			turned := slices.Concat(inOrder[start:], inOrder[:start])
			want(t, fmt.Sprintf("Ordered at %d", col), query.Ordered(turned, col), inOrder)
			slices.Reverse(turned)
			want(t, fmt.Sprintf("Ordered at %d", col), query.Ordered(turned, col), inOrder)
		}
	}
	for _, l := range [][]api.Out{nil, {}} {
		for _, col := range []int{-1, 0, 1} {
			want(t, "Ordered of none", query.Ordered(l, col), "[]")
		}
	}
}

func TestP21_1OrderedByAColumn(t *testing.T) {
	a, b, c, d := still(0, 5, 9, 1), still(0, 5, 1, 2), still(0, 5, 5), still(0, 5)
	e, f := still(0, 5, 2, "a"), still(0, 5, 3, api.Value{})
	g, h := during(span(3, 4), 0, 5, 1, 2), still(-4, 5, 1, 2)
	all := outs(a, b, c, d, e, f, g, h)
	for _, x := range []struct {
		col  int
		want []api.Out
	}{
		{0, outs(d, h, b, g, e, f, c, a)},
		// Those without a second value are ahead of the one whose second value is of no kind.
		{1, outs(d, c, f, a, h, b, g, e)},
		{2, outs(d, h, b, g, e, f, c, a)}, {-1, outs(d, h, b, g, e, f, c, a)},
	} {
		for start := range all {
			got := query.Ordered(slices.Concat(all[start:], all[:start]), x.col)
			want(t, fmt.Sprintf("Ordered at %d", x.col), got, x.want)
		}
	}
	// Rows that stand there twice stay two.
	want(t, "Ordered of twice", query.Ordered(outs(a, b, a, b), 1), outs(a, a, b, b))
}

func cols(names ...string) []api.Col {
	var l []api.Col
	for _, name := range names {
		l = append(l, api.Col{Name: name, Kind: api.Int})
	}
	return l
}

func TestP21_1Columns(t *testing.T) {
	sys := span(3, 8)
	l := outs(during(sys, 0, 5, 1, "x", 3), still(2, 1, 4, 5, 6, 7), during(sys, 0, 5, 8), still(0, 5))
	abc := cols("a", "b", "c")
	for _, x := range []struct {
		cols  []api.Col
		names []string
		want  []api.Out
	}{
		// Without names they are as they are, whatever columns there are.
		{abc, nil, l}, {abc, []string{}, l}, {nil, nil, l}, {cols("a"), nil, l}, {cols("a", "b", "c", "d", "e"), nil, l},
		// In the order of the names; a row with fewer values has those that are there.
		{abc, []string{"a"}, outs(during(sys, 0, 5, 1), still(2, 1, 4), during(sys, 0, 5, 8), still(0, 5))},
		{abc, []string{"b"}, outs(during(sys, 0, 5, "x"), still(2, 1, 5), during(sys, 0, 5), still(0, 5))},
		{abc, []string{"c", "a"}, outs(during(sys, 0, 5, 3, 1), still(2, 1, 6, 4), during(sys, 0, 5, 8), still(0, 5))},
		{abc, []string{"a", "b", "c"}, outs(during(sys, 0, 5, 1, "x", 3), still(2, 1, 4, 5, 6), during(sys, 0, 5, 8), still(0, 5))},
		// A name twice.
		{abc, []string{"b", "b", "a", "b"}, outs(during(sys, 0, 5, "x", "x", 1, "x"), still(2, 1, 5, 5, 4, 5), during(sys, 0, 5, 8), still(0, 5))},
		// A name that there is not.
		{abc, []string{"d"}, outs(during(sys, 0, 5), still(2, 1), during(sys, 0, 5), still(0, 5))},
		{abc, []string{"d", "a", "", "A"}, outs(during(sys, 0, 5, 1), still(2, 1, 4), during(sys, 0, 5, 8), still(0, 5))},
		{nil, []string{"a"}, outs(during(sys, 0, 5), still(2, 1), during(sys, 0, 5), still(0, 5))},
		// The first column of a name.
		{cols("a", "b", "b", "a"), []string{"b", "a"}, outs(during(sys, 0, 5, "x", 1), still(2, 1, 5, 4), during(sys, 0, 5, 8), still(0, 5))},
		// Any names, and kinds that are not the values'.
		{[]api.Col{{Name: "\xff", Kind: 9}, {}}, []string{"", "\xff"}, outs(during(sys, 0, 5, "x", 1), still(2, 1, 5, 4), during(sys, 0, 5, 8), still(0, 5))},
	} {
		want(t, fmt.Sprintf("Columns(%v, %q)", x.cols, x.names), query.Columns(l, x.cols, x.names), x.want)
		for _, none := range [][]api.Out{nil, {}} {
			want(t, "Columns of none", query.Columns(none, x.cols, x.names), "[]")
		}
	}
	// They stay in their order, and as often.
	want(t, "Columns", query.Columns(outs(still(0, 5, 2, 1), still(0, 5, 1, 2), still(0, 5, 1, 1)), abc, []string{"b"}), outs(still(0, 5, 1), still(0, 5, 2), still(0, 5, 1)))
}

func TestP21_1Same(t *testing.T) {
	base := func() []api.Out { return outs(during(span(1, 4), 0, 5, 1, "x"), still(0, 5, 2), still(0, 5, 2)) }
	if !query.Same(base(), base()) || !query.Same(nil, nil) || !query.Same(nil, []api.Out{}) || !query.Same([]api.Out{}, nil) {
		t.Error("what is one is not the same")
	}
	if !query.Same(outs(api.Out{}), outs(api.Out{Vals: []api.Value{}})) {
		t.Error("no values and none are not the same")
	}
	for what, change := range map[string]func(l []api.Out) []api.Out{
		"shorter":          func(l []api.Out) []api.Out { return l[:2] },
		"none":             func([]api.Out) []api.Out { return nil },
		"longer":           func(l []api.Out) []api.Out { return append(l, l[2]) },
		"longer by a zero": func(l []api.Out) []api.Out { return append(l, api.Out{}) },
		"in another order": func(l []api.Out) []api.Out { return outs(l[1], l[0], l[2]) },
		"a number":         func(l []api.Out) []api.Out { l[0].Vals[0].Num++; return l },
		"a text":           func(l []api.Out) []api.Out { l[0].Vals[1].Str = "y"; return l },
		"a kind":           func(l []api.Out) []api.Out { l[2].Vals[0].Kind = api.Text; return l },
		"fewer values":     func(l []api.Out) []api.Out { l[0].Vals = l[0].Vals[:1]; return l },
		"more values":      func(l []api.Out) []api.Out { l[1].Vals = values(2, 3); return l },
		"no values":        func(l []api.Out) []api.Out { l[2].Vals = nil; return l },
		"the span's From":  func(l []api.Out) []api.Out { l[0].Span.From--; return l },
		"the span's To":    func(l []api.Out) []api.Out { l[1].Span.To++; return l },
		"Sys' From":        func(l []api.Out) []api.Out { l[0].Sys.From++; return l },
		"Sys' To":          func(l []api.Out) []api.Out { l[2].Sys.To++; return l },
		"span for Sys":     func(l []api.Out) []api.Out { l[0].Span, l[0].Sys = l[0].Sys, l[0].Span; return l },
	} {
		if query.Same(base(), change(base())) || query.Same(change(base()), base()) {
			t.Errorf("%s: lists that differ are the same", what)
		}
	}
}

// spare has spare room behind its end, and behind that of its values, with something in it.
func spare(l ...api.Out) []api.Out {
	all := make([]api.Out, 0, len(l)+2)
	for _, o := range l {
		vals := append(slices.Clone(o.Vals), num(501), str("spare"))
		all = append(all, api.Out{Vals: vals[:len(o.Vals)], Span: o.Span, Sys: o.Sys})
	}
	all = append(all, still(501, 502, 501), still(503, 504, "spare"))
	return all[:len(l)]
}

// wholeOuts has all spare room, too.
func wholeOuts(l []api.Out) string {
	text := ""
	for _, o := range l[:cap(l)] {
		text += fmt.Sprint(o.Span, o.Sys, o.Vals[:cap(o.Vals)], len(o.Vals), "; ")
	}
	return text
}

func scribble(l []api.Out) {
	for i, o := range l[:cap(l)] {
		scribbleOut(o)
		l[:cap(l)][i] = still(-77, 77, "scribble")
	}
}

func scribbleOut(o api.Out) {
	for j := range o.Vals[:cap(o.Vals)] {
		o.Vals[:cap(o.Vals)][j] = str("scribble")
	}
}

// apart tells whether no two rows of an answer share their values.
func apart(t *testing.T, name string, l []api.Out) {
	t.Helper()
	for i, o := range l {
		others := fmt.Sprint(l[:i], l[i+1:])
		scribbleOut(o)
		if fmt.Sprint(l[:i], l[i+1:]) != others {
			t.Errorf("%s: row %d shares its values with another one", name, i)
		}
	}
}

func answers() map[string]func(l []api.Out) []api.Out {
	abc := cols("a", "b")
	return map[string]func(l []api.Out) []api.Out{
		"Join of itself":       func(l []api.Out) []api.Out { return query.Join(l, l, 0, 0) },
		"Join as the first":    func(l []api.Out) []api.Out { return query.Join(l, outs(still(0, 5, 1)), 0, 0) },
		"Join as the other":    func(l []api.Out) []api.Out { return query.Join(outs(still(0, 5, 1)), l, 0, 0) },
		"Ordered alone":        func(l []api.Out) []api.Out { return query.Ordered(l, -1) },
		"Ordered":              func(l []api.Out) []api.Out { return query.Ordered(l, 1) },
		"Columns, without any": func(l []api.Out) []api.Out { return query.Columns(l, abc, nil) },
		"Columns, one":         func(l []api.Out) []api.Out { return query.Columns(l, abc, []string{"b"}) },
		"Columns, all":         func(l []api.Out) []api.Out { return query.Columns(l, abc, []string{"a", "b", "b"}) },
	}
}

func TestP3HandedInAndOut(t *testing.T) {
	for name, call := range answers() {
		l := spare(still(0, 5, 2, 1), still(0, 5, 1, 7), still(0, 5, 1, 7), still(1, 5, 1, 3))
		ahead := wholeOuts(l)
		got := call(l)
		want(t, "what was handed in to "+name, wholeOuts(l), ahead)
		if len(got) < 3 {
			t.Errorf("%s has only %v", name, got)
		}
		before := told(got)
		scribble(l)
		want(t, name+", behind what was handed in is written over,", got, before)
		again := spare(still(0, 5, 2, 1), still(0, 5, 1, 7), still(0, 5, 1, 7), still(1, 5, 1, 3))
		got = call(again)
		apart(t, name, got)
		scribble(got)
		want(t, "what was handed in to "+name+", behind its answer is written over,", wholeOuts(again), ahead)
		want(t, name+", again,", call(again), before)
	}
}

func TestP3NamesAndColumnsHandedIn(t *testing.T) {
	names := append([]string{"b", "a"}, "spare")[:2]
	abc := append(cols("a", "b"), api.Col{Name: "spare"})[:2]
	ahead := fmt.Sprint(names[:cap(names)], abc[:cap(abc)])
	query.Columns(outs(still(0, 5, 1, 2)), abc, names)
	want(t, "what was handed in", fmt.Sprint(names[:cap(names)], abc[:cap(abc)]), ahead)
}

func TestP3SameHandedIn(t *testing.T) {
	a, b := spare(still(0, 5, 1)), spare(still(0, 5, 2))
	ahead := wholeOuts(a) + wholeOuts(b)
	query.Same(a, b)
	want(t, "what was handed in", wholeOuts(a)+wholeOuts(b), ahead)
}

func TestP1ManyRows(t *testing.T) {
	var l []api.Out
	for i := range 2000 {
		l = append(l, during(span(i%7, 9), i%500, 1000, i%300, 2000-i))
	}
	want(t, "how many of Ordered", len(query.Ordered(l, 1)), 2000)
	want(t, "the first of Ordered", query.Ordered(l, 1)[0], l[1999])
	joined := query.Join(l, l, 0, 0)
	// 200 of the 300 values are there 7 times, the others 6 times; all have points and instants together.
	want(t, "how many of Join", len(joined), 200*49+100*36)
	if !query.Same(joined, query.Ordered(joined, -1)) {
		t.Error("Join is not in order")
	}
}
