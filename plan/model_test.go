package plan_test

import (
	"fmt"
	"slices"
	"testing"

	"regesta/api"
	"regesta/codec"
	"regesta/expr"
	"regesta/plan"
	"regesta/rows"
)

// The model is the chapter's words: a plain list, gone through row by row, and point by point.

// each are the rows that are right, each once, in order, of which one says yes.
func each(l []api.Row, yes func(api.Row) bool) []api.Row {
	var out []api.Row
	for _, r := range l {
		again := slices.ContainsFunc(out, func(o api.Row) bool { return codec.Compare(o, r) == 0 })
		if codec.Right(r) && !again && yes(r) {
			out = append(out, r)
		}
	}
	slices.SortFunc(out, codec.Compare)
	return out
}

func together(a, b api.Span) bool {
	for p := a.From; p < a.To; p++ {
		if b.From <= p && p < b.To {
			return true
		}
	}
	return false
}

func candidates() []api.Row {
	return list(row(0, 2, 1), row(1, 3, 1), row(2, 4, 1, 1), row(0, 4, 2), row(1, 2, "1"), row(3, 4, 0, "x"), row(2, 2, 1), row(0, 2, api.Value{}))
}

func keys() []api.Value {
	return []api.Value{num(-1), num(0), num(1), num(2), num(3), str(""), str("1"), str("x"), {}, {Kind: api.Int, Num: 1, Str: "x"}, {Kind: 7, Num: 1}}
}

// lists calls look with each list of at most that many of the candidates, some of them twice.
func lists(most int, look func([]api.Row)) {
	var grow func(l []api.Row)
	grow = func(l []api.Row) {
		look(l)
		if len(l) == most {
			return
		}
		for _, r := range candidates() {
			grow(append(slices.Clip(l), r))
		}
	}
	grow(nil)
}

func TestP20_2AllShortLists(t *testing.T) {
	tried := 0
	lists(4, func(l []api.Row) {
		x := plan.Of(l)
		tried++
		want(t, fmt.Sprintf("All of %v", l), x.All(), each(l, func(api.Row) bool { return true }))
		for _, v := range keys() {
			wanted := each(l, func(r api.Row) bool { return r.Vals[0] == v })
			want(t, fmt.Sprintf("ByKey(%v) of %v", v, l), x.ByKey(v), wanted)
		}
		for from := -1; from <= 5; from++ {
			for to := from - 1; to <= 5; to++ {
				s := span(from, to)
				wanted := each(l, func(r api.Row) bool { return together(r.Span, s) })
				want(t, fmt.Sprintf("BySpan(%v) of %v", s, l), x.BySpan(s), wanted)
			}
		}
	})
	if tried != 1+8+64+512+4096 {
		t.Errorf("%d lists were tried", tried)
	}
}

// P20.4: BySpan of one point are the rows there.
func TestP20_4OnePoint(t *testing.T) {
	lists(3, func(l []api.Row) {
		x := plan.Of(l)
		right := x.All()
		for p := -1; p <= 5; p++ {
			there := x.BySpan(span(p, p+1))
			var vals [][]api.Value
			for _, r := range there {
				if r.Span.From > p || p >= r.Span.To {
					t.Fatalf("BySpan at %d has %v", p, r)
				}
				vals = append(vals, r.Vals)
			}
			vals = slices.CompactFunc(vals, codec.Same)
			want(t, fmt.Sprintf("the values at %d of %v", p, l), vals, rows.At(right, p))
		}
	})
}

// conditions are all of some comparisons, and all that is made of two of them, and of that with a third one.
func conditions() [][]api.Cond {
	var atoms []api.Cond
	for _, col := range []string{"a", "b", "x"} {
		for _, v := range []api.Value{num(1), num(2), str("1"), {}, {Kind: api.Int, Num: 1, Str: "x"}} {
			atoms = append(atoms, api.Cond{Kind: api.Cmp, Col: col, Op: api.Eq, Val: v})
		}
		atoms = append(atoms, api.Cond{Kind: api.Cmp, Col: col, Op: api.Le, Val: num(1)})
	}
	all := [][]api.Cond{nil}
	for _, a := range atoms {
		all = append(all, []api.Cond{a}, []api.Cond{a, {Kind: api.Not, Kids: []int{0}}}, []api.Cond{a, {Kind: 9, Kids: []int{0}}})
		for _, b := range atoms {
			for _, kind := range []api.CondKind{api.And, api.Or} {
				pair := []api.Cond{a, b, {Kind: kind, Kids: []int{0, 1}}}
				all = append(all, pair, append(slices.Clip(pair), api.Cond{Kind: api.Not, Kids: []int{2}}), append(slices.Clip(pair), atoms[2], api.Cond{Kind: api.And, Kids: []int{2, 3}}), append(slices.Clip(pair), atoms[2], api.Cond{Kind: api.Or, Kids: []int{2, 3}}))
			}
		}
	}
	return all
}

// P20.3: of the rows that Find of Choose tells, those of which the condition holds are those of all. E2: how rows are found never matters.
func TestP20_3FindOfChoose(t *testing.T) {
	l := append(candidates(), row(0, 5, 1, 2), row(0, 5, 2, 1), row(0, 5, "1", 1), row(0, 3, "1", "1"))
	x := plan.Of(l)
	seen := map[string]int{}
	for _, first := range []api.Kind{api.Int, api.Text, api.NoKind, 9} {
		for _, cols := range [][]api.Col{nil, {{Name: "a", Kind: first}}, {{Name: "a", Kind: first}, {Name: "b", Kind: api.Int}}, {{Name: "b", Kind: first}, {Name: "a", Kind: api.Int}}, {{Name: "a", Kind: first}, {Name: "a", Kind: api.Int}}} {
			for _, cond := range conditions() {
				chosen := plan.Choose(cond, cols)
				holds := func(r api.Row) bool { return expr.Holds(cond, cols, r.Vals) }
				found := slices.DeleteFunc(x.Find(chosen), func(r api.Row) bool { return !holds(r) })
				if wanted := each(l, holds); !slices.EqualFunc(found, wanted, func(a, b api.Row) bool { return codec.Compare(a, b) == 0 }) {
					t.Fatalf("%v of %v, by %v, finds %v, not %v", chosen, cond, cols, found, wanted)
				}
				seen[plan.Tell(chosen)] += len(found)
			}
		}
	}
	for _, told := range []string{"scan", "key 1", "key 2", "key '1'"} {
		if seen[told] < 20 {
			t.Errorf("%s found only %d", told, seen[told])
		}
	}
}
