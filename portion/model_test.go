package portion_test

import (
	"cmp"
	"slices"
	"testing"

	"regesta/api"
	"regesta/codec"
	"regesta/expr"
	"regesta/portion"
)

// The model is the chapter's words, point by point: at each point a row has its values, or others, or none.

func valuesOrder(a, b []api.Value) int {
	for i := range min(len(a), len(b)) {
		if c := cmp.Or(cmp.Compare(a[i].Kind, b[i].Kind), cmp.Compare(a[i].Num, b[i].Num), cmp.Compare(a[i].Str, b[i].Str)); c != 0 {
			return c
		}
	}
	return cmp.Compare(len(a), len(b))
}

func hasModel(s api.Span, p int) bool {
	return s.From >= -1000 && s.To <= 1000 && s.From <= p && p < s.To
}

func withinModel(s api.Stmt, p int) bool {
	if !s.HasSpan {
		return p >= -1000 && p < 1000
	}
	return hasModel(s.Span, p)
}

// first and last are points between which all right rows of a world lie.
const first, last = -2, 8

func hitModel(r api.Row, cols []api.Col, s api.Stmt) bool {
	for p := first; p <= last; p++ {
		if hasModel(r.Span, p) && withinModel(s, p) {
			return expr.Holds(s.Where, cols, r.Vals)
		}
	}
	return false
}

func setModel(vals []api.Value, cols []api.Col, sets []api.Set) []api.Value {
	out := slices.Clone(vals)
	for i := range out {
		for _, x := range sets {
			named := func(c api.Col) bool { return c.Name == x.Col }
			if i < len(cols) && named(cols[i]) && !slices.ContainsFunc(cols[:i], named) {
				out[i] = x.Val
			}
		}
	}
	return out
}

// atModel are the values at a point, each once, in order, of rows of which change makes others.
func atModel(l []api.Row, p int, change func(api.Row) ([]api.Value, bool)) [][]api.Value {
	var out [][]api.Value
	for _, r := range l {
		vals, ok := change(r)
		if hasModel(r.Span, p) && ok {
			out = append(out, vals)
		}
	}
	slices.SortFunc(out, valuesOrder)
	return slices.CompactFunc(out, func(a, b []api.Value) bool { return valuesOrder(a, b) == 0 })
}

func asItIs(r api.Row) ([]api.Value, bool) { return r.Vals, true }

// canonical tells whether rows are in order, right, and none has the values of another one that it touches.
func canonical(l []api.Row) bool {
	for i, b := range l {
		if b.Span.From < -1000 || b.Span.To > 1000 || b.Span.From >= b.Span.To {
			return false
		}
		for _, a := range l[:i] {
			order := valuesOrder(a.Vals, b.Vals)
			if order > 0 || order == 0 && a.Span.To >= b.Span.From {
				return false
			}
		}
	}
	return true
}

// wantPoints asks for rows that are canonical, and have at each point what is wanted.
func wantPoints(t *testing.T, call string, of any, got []api.Row, want func(p int) [][]api.Value) {
	t.Helper()
	if !canonical(got) {
		t.Fatalf("%s of %v is not canonical: %v", call, of, got)
	}
	for p := first - 1; p <= last+1; p++ {
		if at := atModel(got, p, asItIs); !slices.EqualFunc(at, want(p), slices.Equal) {
			t.Fatalf("%s of %v has %v at %d, not %v: %v", call, of, at, p, want(p), got)
		}
	}
	for _, r := range got {
		if r.Span.From < first || r.Span.To > last {
			t.Fatalf("%s of %v lies outside of all rows: %v", call, of, got)
		}
	}
}

// agree holds all changes of a list by a statement against the model.
func agree(t *testing.T, l []api.Row, cols []api.Col, s api.Stmt) {
	t.Helper()
	hits := 0
	var keys []string
	for _, r := range l {
		if hitModel(r, cols, s) {
			hits++
			keys = append(keys, codec.Key(r))
		}
	}
	slices.Sort(keys)
	of := []any{l, cols, s}
	updated, n := portion.Update(l, cols, s)
	if n != hits {
		t.Fatalf("Update of %v hits %d, not %d", of, n, hits)
	}
	wantPoints(t, "Update", of, updated, func(p int) [][]api.Value {
		return atModel(l, p, func(r api.Row) ([]api.Value, bool) {
			if hitModel(r, cols, s) && withinModel(s, p) {
				return setModel(r.Vals, cols, s.Sets), true
			}
			return r.Vals, true
		})
	})
	deleted, n := portion.Delete(l, cols, s)
	if n != hits {
		t.Fatalf("Delete of %v hits %d, not %d", of, n, hits)
	}
	wantPoints(t, "Delete", of, deleted, func(p int) [][]api.Value {
		return atModel(l, p, func(r api.Row) ([]api.Value, bool) { return r.Vals, !hitModel(r, cols, s) || !withinModel(s, p) })
	})
	if got := portion.Keys(l, cols, s); !slices.Equal(got, slices.Compact(keys)) {
		t.Fatalf("Keys of %v = %q, not %q", of, got, keys)
	}
}

// follow asks what the chapter says that follows, by the calls alone.
func follow(t *testing.T, l []api.Row, cols []api.Col, s api.Stmt) {
	t.Helper()
	updated, _ := portion.Update(l, cols, s)
	deleted, _ := portion.Delete(l, cols, s)
	always := s
	always.HasSpan, always.Span = false, api.Span{}
	for p := first - 1; p <= last+1; p++ {
		at := atModel(l, p, asItIs)
		u, d := at, at
		if withinModel(s, p) {
			// P16.3: the rows at that point, changed as if there were no other one.
			var there []api.Row
			for _, vals := range at {
				there = append(there, api.Row{Vals: vals, Span: api.Span{From: p, To: p + 1}})
			}
			changed, _ := portion.Update(there, cols, always)
			u = atModel(changed, p, asItIs)
			changed, _ = portion.Delete(there, cols, always)
			d = atModel(changed, p, asItIs)
		}
		if got := atModel(updated, p, asItIs); !slices.EqualFunc(got, u, slices.Equal) {
			t.Fatalf("Update of %v by %v: at %d %v, not %v", l, s, p, got, u)
		}
		if got := atModel(deleted, p, asItIs); !slices.EqualFunc(got, d, slices.Equal) {
			t.Fatalf("Delete of %v by %v: at %d %v, not %v", l, s, p, got, d)
		}
	}
	// P16.4: what is left of time lies ahead of the portion, and behind it; of a portion without points all time is left.
	rest := []api.Span{{From: api.Least, To: s.Span.From}, {From: s.Span.To, To: api.Most}}
	if s.Span.From < api.Least || s.Span.From >= s.Span.To || s.Span.To > api.Most {
		rest = []api.Span{{From: api.Least, To: api.Most}}
	}
	for _, left := range rest {
		then := s
		then.HasSpan, then.Span = true, left
		deleted, _ = portion.Delete(deleted, cols, then)
	}
	whole, _ := portion.Delete(l, cols, always)
	if !sameRows(deleted, whole) {
		t.Fatalf("Delete of %v by %v, then of the rest: %v, not %v", l, s, deleted, whole)
	}
}

// Rows of two keys that overlap, meet, and lie apart, twins, rows of fewer and of more values, and without points.
func candidates() []api.Row {
	return []api.Row{
		row(0, 4, 1, 0), row(2, 6, 1, 0), row(4, 6, 1, 1), row(1, 2, 1, 1), row(0, 6, 2, 0), row(3, 5, "a", 1), row(2, 4, 1), row(1, 5), row(0, 6, 1, 0, 7),
		row(3, 3, 1, 0), row(5, 2, 1, 0), row(2, 1001, 1, 0), row(-1001, 4, 1, 0),
	}
}

// statements have each kind of portion with each of a few conditions and Sets.
func statements(t *testing.T) []api.Stmt {
	t.Helper()
	portions := []api.Stmt{{}, {Span: api.Span{From: 2, To: 3}}}
	for _, p := range []api.Span{{From: 2, To: 4}, {From: 0, To: 6}, {From: -1, To: 1}, {From: 5, To: 7}, {From: 6, To: 7}, {From: -1000, To: 1000}, {From: 3, To: 4}, {}, {From: 4, To: 2}, {From: 0, To: 1001}, {From: -1001, To: 6}} {
		portions = append(portions, api.Stmt{HasSpan: true, Span: p})
	}
	var out []api.Stmt
	for _, s := range portions {
		for _, where := range []string{"", "k = 1", "v = 0", "not k = 2", "(k = 1 and v = 1)", "x = 1"} {
			for _, sets := range [][]api.Set{nil, {{Col: "v", Val: num(1)}}, {{Col: "x", Val: num(1)}, {Col: "k", Val: num(2)}}, {{Col: "v", Val: num(5)}, {Col: "v", Val: str("b")}}} {
				s.Where, s.Sets = condition(t, where), sets
				out = append(out, s)
			}
		}
	}
	return out
}

func TestP16_1AllShortLists(t *testing.T) {
	var lists [][]api.Row
	all := candidates()
	lists = append(lists, nil)
	for i, a := range all {
		lists = append(lists, list(a), list(a, a))
		for j, b := range all[:i] {
			lists = append(lists, list(a, b))
			for _, c := range all[:j] {
				lists = append(lists, list(c, a, b))
			}
		}
	}
	for _, l := range lists {
		for _, s := range statements(t) {
			agree(t, l, columns, s)
			if s.HasSpan {
				follow(t, l, columns, s)
			}
		}
	}
}

func TestP16_1InsertOfAllShortLists(t *testing.T) {
	all := candidates()
	for _, a := range all {
		for _, b := range all {
			for _, r := range all {
				l := list(a, b)
				wantPoints(t, "Insert", list(a, b, r), portion.Insert(l, r), func(p int) [][]api.Value { return atModel(list(a, b, r), p, asItIs) })
			}
		}
	}
}
