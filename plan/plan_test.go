package plan_test

import (
	"fmt"
	"math"
	"slices"
	"testing"

	"regesta/api"
	"regesta/parse"
	"regesta/plan"
	"regesta/rows"
)

// The calls are those of the chapter.
var (
	_ func([]api.Cond, []api.Col) plan.Plan      = plan.Choose
	_ func(plan.Plan) string                     = plan.Tell
	_ func([]api.Row) *plan.Index                = plan.Of
	_ func(*plan.Index, plan.Plan) []api.Row     = (*plan.Index).Find
	_ func(*plan.Index, api.Value) []api.Row     = (*plan.Index).ByKey
	_ func(*plan.Index, api.Span) []api.Row      = (*plan.Index).BySpan
	_ func(x *plan.Index) (everything []api.Row) = (*plan.Index).All
)

func num(n int64) api.Value  { return api.Value{Kind: api.Int, Num: n} }
func str(s string) api.Value { return api.Value{Kind: api.Text, Str: s} }

// row has values of numbers, of texts, or as they are.
func row(from, to int, vals ...any) api.Row {
	r := api.Row{Span: span(from, to)}
	for _, v := range vals {
		switch x := v.(type) {
		case int:
			r.Vals = append(r.Vals, num(int64(x)))
		case string:
			r.Vals = append(r.Vals, str(x))
		case api.Value:
			r.Vals = append(r.Vals, x)
		}
	}
	return r
}

func list(l ...api.Row) []api.Row { return l }

func span(from, to int) api.Span { return api.Span{From: from, To: to} }

func byKey(v api.Value) plan.Plan { return plan.Plan{Kind: api.ByKey, Key: v} }

var scan = plan.Plan{Kind: api.Scan}

func want(t *testing.T, call string, got, want any) {
	t.Helper()
	if a, b := fmt.Sprint(got), fmt.Sprint(want); a != b {
		t.Fatalf("%s = %s, not %s", call, a, b)
	}
}

func where(t *testing.T, text string) []api.Cond {
	t.Helper()
	l, place, e := parse.Where(text)
	if e != api.OK {
		t.Fatalf("Where(%q) = %d, at %d", text, e, place)
	}
	return l
}

func intAndText() []api.Col {
	return []api.Col{{Name: "a", Kind: api.Int}, {Name: "b", Kind: api.Text}, {Name: "c", Kind: api.Int}}
}

func TestP20_1Choose(t *testing.T) {
	for text, wanted := range map[string]plan.Plan{
		"a = 1": byKey(num(1)), "a = -5": byKey(num(-5)),
		// Within an and, however deep, from the left.
		"(a = 1 and b = 'x')": byKey(num(1)), "(b = 'x' and a = 1)": byKey(num(1)), "(b = 'x' and (c = 3 and a = 4))": byKey(num(4)), "((b = 'x' and a = 2) and a = 1)": byKey(num(2)), "(a = 1 and a = 2)": byKey(num(1)), "(a > 0 and a = 7)": byKey(num(7)), "((a = 1 or a = 2) and a = 3)": byKey(num(3)), "(not a = 1 and a = 2)": byKey(num(2)),
		// Within an or, or a not.
		"(a = 1 or a = 1)": scan, "(a = 1 or b = 'x')": scan, "(b = 'x' or a = 1)": scan, "not a = 1": scan, "not not a = 1": scan, "not (a = 1 and b = 'x')": scan, "(b = 'x' and (a = 1 or c = 2))": scan, "(b = 'x' and not a = 1)": scan,
		// Other comparisons, other columns.
		"a <> 1": scan, "a < 1": scan, "a <= 1": scan, "a > 1": scan, "a >= 1": scan, "b = 'x'": scan, "c = 1": scan, "x = 1": scan, "(b = 'x' and c = 1)": scan,
		// A value of another kind than the column's, also if one of its kind comes later.
		"a = 'x'": scan, "a = ''": scan, "(a = 'x' and a = 1)": scan, "(a = 1 and a = 'x')": byKey(num(1)),
	} {
		want(t, fmt.Sprintf("Choose of %q", text), plan.Choose(where(t, text), intAndText()), wanted)
	}
	texts := []api.Col{{Name: "b", Kind: api.Text}, {Name: "a", Kind: api.Int}}
	for text, wanted := range map[string]plan.Plan{"b = 'x'": byKey(str("x")), "b = ''": byKey(str("")), "(a = 1 and b = 'it''s')": byKey(str("it's")), "b = 1": scan, "a = 1": scan} {
		want(t, fmt.Sprintf("Choose of %q", text), plan.Choose(where(t, text), texts), wanted)
	}
}

func TestP20_1ChooseWithout(t *testing.T) {
	for _, cols := range [][]api.Col{nil, {}, intAndText()} {
		for _, l := range [][]api.Cond{nil, {}} {
			want(t, "Choose without a condition", plan.Choose(l, cols), scan)
		}
	}
	for _, text := range []string{"a = 1", "(a = 1 and b = 'x')"} {
		want(t, "Choose without columns", plan.Choose(where(t, text), nil), scan)
		want(t, "Choose without columns", plan.Choose(where(t, text), []api.Col{}), scan)
	}
	// A condition of no column's name is of none that there is not.
	noName := []api.Cond{{Kind: api.Cmp, Op: api.Eq}}
	want(t, "Choose without columns", plan.Choose(noName, nil), scan)
}

// What can't be parsed: any parts, any columns.
func TestP20_1ChooseOfAnything(t *testing.T) {
	eq := func(col string, v api.Value) api.Cond { return api.Cond{Kind: api.Cmp, Col: col, Op: api.Eq, Val: v} }
	wrong := api.Value{Kind: api.Int, Num: 1, Str: "x"}
	for _, x := range []struct {
		l    []api.Cond
		cols []api.Col
		want plan.Plan
	}{
		// Just the last part counts, and what it reaches.
		{[]api.Cond{eq("a", num(1)), eq("b", str("x"))}, intAndText(), scan}, {[]api.Cond{eq("b", str("x")), eq("a", num(1))}, intAndText(), byKey(num(1))}, {[]api.Cond{eq("a", num(1)), {Kind: api.And}}, intAndText(), scan}, {[]api.Cond{eq("a", num(1)), {Kind: api.And, Kids: []int{7, -1, 1, math.MinInt, 0}}}, intAndText(), byKey(num(1))}, {[]api.Cond{eq("a", num(1)), eq("a", num(2)), eq("a", num(3)), {Kind: api.And, Kids: []int{2, 0, 1}}}, intAndText(), byKey(num(3))}, {[]api.Cond{{Kind: api.And, Kids: []int{0}}}, intAndText(), scan},
		// No kind, no op.
		{[]api.Cond{{Col: "a", Op: api.Eq, Val: num(1)}}, intAndText(), scan}, {[]api.Cond{{Kind: 9, Col: "a", Op: api.Eq, Val: num(1)}}, intAndText(), scan}, {[]api.Cond{{Kind: api.Cmp, Col: "a", Val: num(1)}}, intAndText(), scan}, {[]api.Cond{{Kind: api.Cmp, Col: "a", Op: 99, Val: num(1)}}, intAndText(), scan},
		// A value that is not right, but of the column's kind: no row has it, and it is told as nothing.
		{[]api.Cond{eq("a", wrong)}, intAndText(), byKey(wrong)}, {[]api.Cond{eq("a", api.Value{})}, intAndText(), scan}, {[]api.Cond{eq("a", api.Value{Kind: 9})}, intAndText(), scan}, {[]api.Cond{eq("a", str("\xff"))}, []api.Col{{Name: "a", Kind: api.Text}}, byKey(str("\xff"))}, {[]api.Cond{eq("", api.Value{})}, []api.Col{{}}, byKey(api.Value{})}, {[]api.Cond{eq("a", api.Value{Kind: 9})}, []api.Col{{Name: "a", Kind: 9}}, byKey(api.Value{Kind: 9})},
		// Just the first column counts, whatever others are called.
		{[]api.Cond{eq("a", num(1))}, []api.Col{{Name: "a", Kind: api.Text}, {Name: "a", Kind: api.Int}}, scan}, {[]api.Cond{eq("a", num(1))}, []api.Col{{Name: "a", Kind: api.Int}, {Name: "a", Kind: api.Text}}, byKey(num(1))}, {[]api.Cond{eq("a", num(1))}, []api.Col{{Name: "b", Kind: api.Int}, {Name: "a", Kind: api.Int}}, scan}, {[]api.Cond{eq("A", num(1))}, intAndText(), scan}, {[]api.Cond{eq("\xff", num(1))}, []api.Col{{Name: "\xff", Kind: api.Int}}, byKey(num(1))}, {[]api.Cond{eq("", num(1))}, []api.Col{{Kind: api.Int}}, byKey(num(1))},
	} {
		want(t, fmt.Sprintf("Choose(%v, %v)", x.l, x.cols), plan.Choose(x.l, x.cols), x.want)
	}
}

func TestP20_1Tell(t *testing.T) {
	for _, x := range []struct {
		p    plan.Plan
		want string
	}{
		{scan, "scan"}, {plan.Plan{Kind: api.Scan, Key: num(1)}, "scan"}, {plan.Plan{Kind: api.Scan, Key: api.Value{Kind: 9}}, "scan"},
		{byKey(num(1)), "key 1"}, {byKey(num(0)), "key 0"}, {byKey(num(-7)), "key -7"}, {byKey(num(math.MaxInt64)), "key 9223372036854775807"}, {byKey(num(math.MinInt64)), "key -9223372036854775808"}, {byKey(str("")), "key ''"}, {byKey(str("it's")), "key 'it''s'"}, {byKey(str("ä b")), "key 'ä b'"}, {byKey(str("12345678")), "key '12345678'"},
		// Values that are not right.
		{byKey(api.Value{}), ""}, {byKey(api.Value{Kind: 9}), ""}, {byKey(api.Value{Num: 1}), ""}, {byKey(api.Value{Kind: api.Int, Num: 1, Str: "x"}), ""}, {byKey(api.Value{Kind: api.Text, Num: 1, Str: "x"}), ""}, {byKey(str("123456789")), ""}, {byKey(str("\xff")), ""}, {byKey(str("\n")), ""},
		// No kind, or another one.
		{plan.Plan{}, ""}, {plan.Plan{Key: num(1)}, ""}, {plan.Plan{Kind: 3, Key: num(1)}, ""}, {plan.Plan{Kind: 255, Key: str("x")}, ""},
	} {
		if got := plan.Tell(x.p); got != x.want {
			t.Errorf("Tell(%v) = %q, not %q", x.p, got, x.want)
		}
	}
}

func TestP20_1Example(t *testing.T) {
	cols := []api.Col{{Name: "a", Kind: api.Int}, {Name: "b", Kind: api.Int}}
	if got := plan.Tell(plan.Choose(where(t, "(a = 1 and b = 2)"), cols)); got != "key 1" {
		t.Errorf("Tell = %q", got)
	}
}

// wrongRows are none that a table can have.
func wrongRows() []api.Row {
	return list(row(0, 5), row(5, 5, 1), row(6, 5, 1), row(-1001, 5, 1), row(0, 1001, 1), row(0, 0, 1), row(math.MinInt, math.MaxInt, 1), row(0, 5, 1, 2, 3, 4, 5), row(0, 5, api.Value{}), row(0, 5, 1, api.Value{Kind: 9}), row(0, 5, "\xff"), row(0, 5, "123456789"), row(0, 5, api.Value{Kind: api.Int, Num: 1, Str: "x"}), row(0, 5, api.Value{Kind: api.Text, Num: 1, Str: "x"}), api.Row{})
}

var everything = api.Span{From: math.MinInt, To: math.MaxInt}

func TestP20_2OfNone(t *testing.T) {
	for _, l := range [][]api.Row{nil, {}, wrongRows()} {
		x := plan.Of(l)
		if x == nil {
			t.Fatal("Of is nil")
		}
		if len(x.All()) > 0 || len(x.BySpan(everything)) > 0 || len(x.BySpan(span(0, 5))) > 0 || len(x.Find(scan)) > 0 {
			t.Error("there is one that is not right")
		}
		for _, r := range wrongRows() {
			for _, v := range r.Vals {
				if len(x.ByKey(v)) > 0 || len(x.Find(byKey(v))) > 0 {
					t.Errorf("ByKey(%v) has one", v)
				}
			}
		}
	}
}

func TestP20_2OfWrongAndTwice(t *testing.T) {
	a, b, c := row(0, 5, 1), row(5, 9, 1), row(0, 5, 2, "x")
	for _, l := range [][]api.Row{{a, b, c}, {c, b, a}, {a, a, b, c}, {a, c, b, a, c, a}, slices.Concat(wrongRows(), list(c, b), wrongRows(), list(a), wrongRows())} {
		x := plan.Of(l)
		want(t, "All", x.All(), list(a, b, c))
		want(t, "ByKey", x.ByKey(num(1)), list(a, b))
		want(t, "ByKey", x.ByKey(num(2)), list(c))
		want(t, "BySpan", x.BySpan(span(4, 5)), list(a, c))
		want(t, "BySpan", x.BySpan(span(4, 6)), list(a, b, c))
	}
	// Other spans, or other values, are other rows.
	l := list(row(0, 5, 1), row(0, 6, 1), row(1, 5, 1), row(0, 5, 1, 0), row(0, 5, 1, ""), row(0, 5, ""), row(0, 5, "", ""))
	want(t, "how many", len(plan.Of(l).All()), len(l))
}

func TestP20_2All(t *testing.T) {
	ordered := list(row(-1000, 1000, math.MinInt), row(0, 5, -1), row(0, 1000, 0), row(0, 4, 1), row(0, 5, 1), row(1, 2, 1), row(0, 1, 1, 0), row(0, 1, 1, 0, 0, 0), row(0, 1, 1, ""), row(0, 1, 2), row(0, 1, math.MaxInt), row(0, 1, ""), row(0, 1, "", 1), row(0, 1, "B"), row(0, 1, "a"), row(0, 1, "ab"), row(0, 1, "b"), row(0, 1, "ä"))
	for i := range ordered {
		turned := slices.Concat(ordered[i:], ordered[:i])
		want(t, "All", plan.Of(turned).All(), ordered)
		slices.Reverse(turned)
		x := plan.Of(turned)
		want(t, "All", x.All(), ordered)
		want(t, "BySpan of all time", x.BySpan(span(-1000, 1000)), ordered)
	}
}

func TestP20_2ByKey(t *testing.T) {
	l := list(row(0, 5, 2, 9), row(5, 9, 2, 0), row(0, 5, -3), row(0, 5, 1), row(0, 9, "", "z"), row(0, 5, "1"), row(5, 9, "1", 2), row(0, 5, "a"), row(0, 5, "ab"), row(0, 1, math.MaxInt), row(0, 1, math.MinInt), row(0, 5, "ääääääää"), row(0, 9, "\U00010000\U00010000\U00010000\U00010000\U00010000\U00010000\U00010000\U00010000"))
	x := plan.Of(l)
	for _, y := range []struct {
		v    api.Value
		want []api.Row
	}{
		{num(2), list(l[1], l[0])}, {num(-3), list(l[2])}, {num(1), list(l[3])}, {str(""), list(l[4])}, {str("1"), list(l[5], l[6])}, {str("a"), list(l[7])}, {str("ab"), list(l[8])}, {num(math.MaxInt), list(l[9])}, {num(math.MinInt), list(l[10])}, {str("ääääääää"), list(l[11])}, {l[12].Vals[0], list(l[12])},
		// Such as no row has, ahead of all, between, behind all.
		{num(math.MinInt + 1), nil}, {num(-4), nil}, {num(0), nil}, {num(3), nil}, {num(9), nil}, {num(math.MaxInt - 1), nil}, {str("2"), nil}, {str("aa"), nil}, {str("b"), nil}, {str("A"), nil}, {str("z"), nil}, {str("äääääää"), nil}, {str("\U0010ffff"), nil},
		// Such as are not right.
		{api.Value{}, nil}, {api.Value{Num: 2}, nil}, {api.Value{Kind: 9, Num: 2}, nil}, {api.Value{Kind: api.Int, Num: 2, Str: "x"}, nil}, {api.Value{Kind: api.Text, Num: 1, Str: "a"}, nil}, {api.Value{Kind: api.Text, Num: 2}, nil}, {str("\xff"), nil}, {str("123456789"), nil}, {str("a\x00"), nil}, {str("\x00"), nil},
	} {
		want(t, fmt.Sprintf("ByKey(%v)", y.v), x.ByKey(y.v), y.want)
		want(t, fmt.Sprintf("Find by the key %v", y.v), x.Find(byKey(y.v)), y.want)
		want(t, fmt.Sprintf("Keyed of %v", y.v), rows.Keyed(x.All(), y.v), y.want)
	}
}

func TestP20_2BySpan(t *testing.T) {
	a, b, c, d, e := row(0, 5, 3), row(5, 9, 1), row(2, 3, 2), row(-1000, -990, 4), row(990, 1000, 0)
	x := plan.Of(list(a, b, c, d, e))
	for _, y := range []struct {
		s    api.Span
		want []api.Row
	}{
		// Without points.
		{span(3, 3), nil}, {span(4, 2), nil}, {span(0, 0), nil}, {span(9, 0), nil}, {span(math.MaxInt, math.MinInt), nil}, {span(math.MinInt, math.MinInt), nil}, {span(math.MaxInt, math.MaxInt), nil}, {api.Span{}, nil},
		// One point: a row's first and last one, and those beside.
		{span(-1, 0), nil}, {span(0, 1), list(a)}, {span(4, 5), list(a)}, {span(5, 6), list(b)}, {span(8, 9), list(b)}, {span(9, 10), nil}, {span(1, 2), list(a)}, {span(2, 3), list(c, a)}, {span(3, 4), list(a)}, {span(-1000, -999), list(d)}, {span(-991, -990), list(d)}, {span(-990, -989), nil}, {span(989, 990), nil}, {span(990, 991), list(e)}, {span(999, 1000), list(e)}, {span(1000, 1001), nil}, {span(-1001, -1000), nil}, {span(math.MinInt, math.MinInt+1), nil}, {span(math.MaxInt-1, math.MaxInt), nil},
		// More points; they come in rows' order, not in that of spans.
		{span(0, 9), list(b, c, a)}, {span(4, 6), list(b, a)}, {span(2, 6), list(b, c, a)}, {span(-5, 1), list(a)}, {span(-5, 0), nil}, {span(8, 100), list(b)}, {span(9, 100), nil}, {span(-1000, 1000), list(e, b, c, a, d)}, {span(-999, 999), list(e, b, c, a, d)}, {span(-990, 990), list(b, c, a)},
		// Such as are wider than time.
		{span(-1001, 1001), list(e, b, c, a, d)}, {everything, list(e, b, c, a, d)}, {span(math.MinInt, 0), list(d)}, {span(math.MinInt, 1), list(a, d)}, {span(9, math.MaxInt), list(e)}, {span(8, math.MaxInt), list(e, b)}, {span(math.MinInt, -1000), nil}, {span(1000, math.MaxInt), nil},
	} {
		want(t, fmt.Sprintf("BySpan(%v)", y.s), x.BySpan(y.s), y.want)
	}
}

func TestP20_2Find(t *testing.T) {
	a, b, c := row(0, 5, 1), row(5, 9, 1), row(0, 5, 2, "x")
	x := plan.Of(list(c, b, a))
	for _, y := range []struct {
		p    plan.Plan
		want []api.Row
	}{
		{scan, list(a, b, c)}, {plan.Plan{Kind: api.Scan, Key: num(1)}, list(a, b, c)}, {plan.Plan{Kind: api.Scan, Key: api.Value{Kind: 9}}, list(a, b, c)},
		{byKey(num(1)), list(a, b)}, {byKey(num(2)), list(c)}, {byKey(num(3)), nil}, {byKey(api.Value{}), nil}, {byKey(str("x")), nil},
		{plan.Plan{}, nil}, {plan.Plan{Key: num(1)}, nil}, {plan.Plan{Kind: 3, Key: num(1)}, nil}, {plan.Plan{Kind: 255, Key: num(1)}, nil},
	} {
		want(t, fmt.Sprintf("Find(%v)", y.p), x.Find(y.p), y.want)
	}
}

func TestP1Nil(t *testing.T) {
	var x *plan.Index
	for _, p := range []plan.Plan{{}, scan, byKey(num(1)), byKey(api.Value{}), {Kind: 9}} {
		if len(x.Find(p)) > 0 {
			t.Errorf("Find(%v) of nil has something", p)
		}
	}
	if len(x.All()) > 0 || len(x.ByKey(num(1))) > 0 || len(x.ByKey(api.Value{})) > 0 || len(x.BySpan(everything)) > 0 || len(x.BySpan(api.Span{})) > 0 {
		t.Error("nil has something")
	}
}

func TestP1ManyRows(t *testing.T) {
	var l []api.Row
	for i := range 20000 {
		l = append(l, row(i%1000, 1000, i%300, i))
	}
	x := plan.Of(slices.Concat(l, l))
	want(t, "how many", len(x.All()), 20000)
	for i := range 300 {
		got := x.ByKey(num(int64(i)))
		if len(got) < 66 || len(got) > 67 || slices.ContainsFunc(got, func(r api.Row) bool { return r.Vals[0] != num(int64(i)) }) {
			t.Fatalf("ByKey(%d) has %d", i, len(got))
		}
	}
	want(t, "how many at 9", len(x.BySpan(span(9, 10))), 200)
	// A condition of many parts, each of which is a kid of the next one, twice.
	deep := []api.Cond{{Kind: api.Cmp, Col: "a", Op: api.Eq, Val: num(1)}}
	for i := range 1000 {
		deep = append(deep, api.Cond{Kind: api.And, Kids: []int{i, i}})
	}
	want(t, "Choose", plan.Choose(deep, intAndText()), byKey(num(1)))
}

// spare has spare room behind its end, and behind that of its values, with something in it.
func spare(l ...api.Row) []api.Row {
	all := make([]api.Row, 0, len(l)+2)
	for _, r := range l {
		vals := append(slices.Clone(r.Vals), num(501), str("spare"))
		all = append(all, api.Row{Vals: vals[:len(r.Vals)], Span: r.Span})
	}
	all = append(all, row(501, 502, 501), row(503, 504, "spare"))
	return all[:len(l)]
}

// toldRows has all spare room, too.
func toldRows(l []api.Row) string {
	text := ""
	for _, r := range l[:cap(l)] {
		text += fmt.Sprint(r.Span, r.Vals[:cap(r.Vals)], len(r.Vals), "; ")
	}
	return text
}

func scribbleRow(r api.Row) {
	for j := range r.Vals[:cap(r.Vals)] {
		r.Vals[:cap(r.Vals)][j] = str("scribble")
	}
}

func scribble(l []api.Row) {
	for i, r := range l[:cap(l)] {
		scribbleRow(r)
		l[:cap(l)][i] = row(-77, 77, "scribble")
	}
}

func answers(x *plan.Index) map[string]func() []api.Row {
	return map[string]func() []api.Row{
		"All":         x.All,
		"ByKey":       func() []api.Row { return x.ByKey(num(1)) },
		"BySpan":      func() []api.Row { return x.BySpan(span(0, 9)) },
		"Find by key": func() []api.Row { return x.Find(byKey(num(1))) },
		"Find of all": func() []api.Row { return x.Find(scan) },
	}
}

func TestP3HandedInAndOut(t *testing.T) {
	l := spare(row(0, 5, 2, 1), row(5, 9, 1, 1), row(0, 5, 1, 1), row(5, 5, 1), row(0, 5, 2, 1))
	ahead := toldRows(l)
	x := plan.Of(l)
	want(t, "what was handed in", toldRows(l), ahead)
	all := fmt.Sprint(x.All())
	scribble(l)
	want(t, "All, behind what was handed in is written over,", x.All(), all)
	for name, call := range answers(x) {
		got := call()
		before := fmt.Sprint(got)
		if len(got) < 2 {
			t.Errorf("%s has only %v", name, got)
		}
		for i, r := range got {
			others := fmt.Sprint(got[:i], got[i+1:])
			scribbleRow(r)
			if fmt.Sprint(got[:i], got[i+1:]) != others {
				t.Errorf("%s: row %d shares its values with another one", name, i)
			}
		}
		scribble(got)
		want(t, "All, behind what "+name+" answers is written over,", x.All(), all)
		want(t, name+", again,", call(), before)
	}
}

func TestP3ChooseHandedIn(t *testing.T) {
	l := append(where(t, "(b = 'x' and (a = 1 and c = 2))"), api.Cond{Kind: api.Not})[:5]
	cols := append(intAndText(), api.Col{Name: "spare"})[:3]
	ahead := fmt.Sprint(l[:cap(l)], cols[:cap(cols)])
	want(t, "Choose", plan.Choose(l, cols), byKey(num(1)))
	want(t, "what was handed in", fmt.Sprint(l[:cap(l)], cols[:cap(cols)]), ahead)
}

func TestP6NothingIsKept(t *testing.T) {
	x := plan.Of(list(row(0, 5, 1)))
	for range 20 {
		y := plan.Of(list(row(0, 5, 2), row(0, 5, 1, 1)))
		y.All()
		want(t, "All", x.All(), list(row(0, 5, 1)))
		want(t, "All", y.All(), list(row(0, 5, 1, 1), row(0, 5, 2)))
	}
}
