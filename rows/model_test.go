package rows_test

import (
	"cmp"
	"slices"
	"testing"

	"regesta/api"
	"regesta/rows"
)

// The model is the chapter's words, as slowly as they are said: rows are gone through point by point.

func valueOrder(a, b api.Value) int {
	return cmp.Or(cmp.Compare(a.Kind, b.Kind), cmp.Compare(a.Num, b.Num), cmp.Compare(a.Str, b.Str))
}

func valuesOrder(a, b []api.Value) int {
	for i := range min(len(a), len(b)) {
		if c := valueOrder(a[i], b[i]); c != 0 {
			return c
		}
	}
	return cmp.Compare(len(a), len(b))
}

func rowOrder(a, b api.Row) int {
	return cmp.Or(valuesOrder(a.Vals, b.Vals), cmp.Compare(a.Span.From, b.Span.From), cmp.Compare(a.Span.To, b.Span.To))
}

func rightModel(s api.Span) bool { return s.From >= -1000 && s.To <= 1000 && s.From < s.To }

func hasModel(s api.Span, p int) bool { return rightModel(s) && s.From <= p && p <= s.To-1 }

// sortedModel takes the least of what is left, again and again.
func sortedModel(l []api.Row) []api.Row {
	var out []api.Row
	left := slices.Clone(l)
	for len(left) > 0 {
		least := 0
		for i := range left {
			if rowOrder(left[i], left[least]) < 0 {
				least = i
			}
		}
		out = append(out, left[least])
		left = slices.Delete(left, least, least+1)
	}
	return out
}

func atModel(l []api.Row, p int) [][]api.Value {
	var out [][]api.Value
	for _, r := range l {
		known := slices.ContainsFunc(out, func(v []api.Value) bool { return valuesOrder(v, r.Vals) == 0 })
		if hasModel(r.Span, p) && !known {
			out = append(out, r.Vals)
		}
	}
	slices.SortFunc(out, valuesOrder)
	return out
}

// canonModel opens a row where values are at a point and were not at the one ahead, and closes it where they are no longer; nothing may lie outside of first to last.
func canonModel(l []api.Row, first, last int) []api.Row {
	var open, out []api.Row
	for p := first - 1; p <= last+1; p++ {
		at := atModel(l, p)
		var still []api.Row
		for _, r := range open {
			if slices.ContainsFunc(at, func(v []api.Value) bool { return valuesOrder(v, r.Vals) == 0 }) {
				still = append(still, r)
				continue
			}
			r.Span.To = p
			out = append(out, r)
		}
		for _, v := range at {
			if !slices.ContainsFunc(still, func(r api.Row) bool { return valuesOrder(v, r.Vals) == 0 }) {
				still = append(still, api.Row{Vals: v, Span: api.Span{From: p}})
			}
		}
		open = still
	}
	return sortedModel(out)
}

func pointsModel(l []api.Row) []int {
	var out []int
	for p := -1000; p <= 1000; p++ {
		if slices.ContainsFunc(l, func(r api.Row) bool { return rightModel(r.Span) && (r.Span.From == p || r.Span.To == p) }) {
			out = append(out, p)
		}
	}
	return out
}

func countModel(l []api.Row, r api.Row) int {
	n := 0
	for _, x := range l {
		if rowOrder(x, r) == 0 {
			n++
		}
	}
	return n
}

func sameModel(a, b []api.Row) bool {
	for _, r := range slices.Concat(a, b) {
		if countModel(a, r) != countModel(b, r) {
			return false
		}
	}
	return true
}

func lessModel(a, b []api.Row) []api.Row {
	var out []api.Row
	for _, r := range sortedModel(a) {
		if countModel(out, r) < countModel(a, r)-countModel(b, r) {
			out = append(out, r)
		}
	}
	return out
}

func sliceModel(l []api.Row, s api.Span) []api.Row {
	var out []api.Row
	for _, r := range l {
		from, to := max(r.Span.From, s.From), min(r.Span.To, s.To)
		if rightModel(r.Span) && rightModel(s) && from < to {
			out = append(out, api.Row{Vals: r.Vals, Span: api.Span{From: from, To: to}})
		}
	}
	return sortedModel(out)
}

func keyedModel(l []api.Row, v api.Value) []api.Row {
	var out []api.Row
	for _, r := range sortedModel(l) {
		if len(r.Vals) > 0 && valueOrder(r.Vals[0], v) == 0 {
			out = append(out, r)
		}
	}
	return out
}

func keysModel(l []api.Row) []api.Value {
	var out []api.Value
	for _, r := range sortedModel(l) {
		if len(r.Vals) > 0 && !slices.Contains(out, r.Vals[0]) {
			out = append(out, r.Vals[0])
		}
	}
	return out
}

// agree holds all that is asked of one list against the model; first and last are the points between which its right rows lie.
func agree(t *testing.T, l []api.Row, first, last int) {
	t.Helper()
	wantRows(t, "Sorted", l, rows.Sorted(l), sortedModel(l))
	canon := rows.Canon(l)
	wantRows(t, "Canon", l, canon, canonModel(l, first, last))
	wantRows(t, "Canon of Canon", l, rows.Canon(canon), canon)
	for p := first - 2; p <= last+2; p++ {
		at := rows.At(l, p)
		if want := atModel(l, p); !sameValues(at, want) {
			t.Fatalf("At(%v, %d) = %v, not %v", l, p, at, want)
		}
		if got := rows.At(canon, p); !sameValues(got, at) {
			t.Fatalf("At(Canon(%v), %d) = %v, not %v", l, p, got, at)
		}
	}
	if got, want := rows.Points(l), pointsModel(l); !slices.Equal(got, want) {
		t.Fatalf("Points(%v) = %v, not %v", l, got, want)
	}
	if got, want := rows.Keys(l), keysModel(l); !slices.Equal(got, want) {
		t.Fatalf("Keys(%v) = %v, not %v", l, got, want)
	}
	for _, v := range append(keysModel(l), num(77), api.Value{}) {
		wantRows(t, "Keyed", l, rows.Keyed(l, v), keyedModel(l, v))
	}
}

// agreeOnTwo holds all that is asked of two lists against the model.
func agreeOnTwo(t *testing.T, a, b []api.Row) {
	t.Helper()
	if got, want := rows.Same(a, b), sameModel(a, b); got != want {
		t.Fatalf("Same(%v, %v) = %v", a, b, got)
	}
	less := rows.Less(a, b)
	wantRows(t, "Less", [][]api.Row{a, b}, less, lessModel(a, b))
	// P15.4: what both have is what Less of Less leaves.
	if both := rows.Less(a, less); !rows.Same(a, slices.Concat(less, both)) || len(rows.Less(both, b)) > 0 {
		t.Fatalf("of %v and %v: Less is %v, both have %v", a, b, less, both)
	}
}

// grown calls look with each list of candidates of at most that length.
func grown(candidates []api.Row, length int, look func([]api.Row)) {
	var grow func(front []api.Row, left int)
	grow = func(front []api.Row, left int) {
		look(front)
		if left == 0 {
			return
		}
		for _, r := range candidates {
			grow(append(slices.Clip(front), r), left-1)
		}
	}
	grow(nil, length)
}

// Rows of one or two values that overlap, meet, lie within one another, or apart by one point; some have no values, and some no points.
func candidates() []api.Row {
	return []api.Row{
		row(0, 2, 1), row(2, 4, 1), row(1, 3, 1), row(3, 4, 1), row(0, 4, 1), row(0, 2, 2), row(2, 3, 1, "a"), row(1, 4, 1, "a"), row(1, 3), row(3, 4),
		row(2, 2, 1), row(3, 1, 1), row(2, 1001, 1), row(-1001, 3, 2), row(2, 3, "a"), row(2, 3, api.Value{Kind: 9, Num: 1, Str: "a"}),
	}
}

func TestP15_1AllShortLists(t *testing.T) {
	tried := 0
	grown(candidates(), 3, func(l []api.Row) {
		agree(t, l, 0, 4)
		tried++
	})
	if tried < 4000 {
		t.Errorf("only %d were tried", tried)
	}
}

// With one value alone the lists may be longer, so that three and more rows are joined.
func TestP15_1CanonOfSpansAlone(t *testing.T) {
	spans := []api.Row{row(0, 1, 1), row(1, 2, 1), row(2, 3, 1), row(4, 5, 1), row(0, 3, 1), row(2, 5, 1), row(3, 4, 1)}
	grown(spans, 5, func(l []api.Row) {
		canon := rows.Canon(l)
		wantRows(t, "Canon", l, canon, canonModel(l, 0, 5))
	})
}

func TestP15_1SameAndLessOfAllShortLists(t *testing.T) {
	few := []api.Row{row(0, 2, 1), row(2, 4, 1), row(2, 2, 1), row(0, 2), row(0, 2, 1, "a")}
	var lists [][]api.Row
	grown(few, 3, func(l []api.Row) { lists = append(lists, l) })
	for _, a := range lists {
		for _, b := range lists {
			agreeOnTwo(t, a, b)
		}
	}
}

func TestP15_5SliceOfAllShortLists(t *testing.T) {
	var spans []api.Span
	for from := -1; from <= 5; from++ {
		for to := -1; to <= 5; to++ {
			spans = append(spans, api.Span{From: from, To: to})
		}
	}
	spans = append(spans, api.Span{From: api.Least, To: api.Most}, api.Span{From: api.Least - 1, To: api.Most}, api.Span{From: api.Least, To: api.Most + 1}, api.Span{From: 1, To: api.Most + 1})
	grown(candidates(), 2, func(l []api.Row) {
		for _, s := range spans {
			wantRows(t, "Slice", []any{l, s}, rows.Slice(l, s), sliceModel(l, s))
		}
	})
}

// P15.3: two lists have one Canon just if they have the same At everywhere.
func TestP15_3OneCanon(t *testing.T) {
	var lists [][]api.Row
	grown(candidates()[:12], 2, func(l []api.Row) { lists = append(lists, l) })
	alike := 0
	for _, a := range lists {
		for _, b := range lists {
			same := true
			for p := -1; p <= 5; p++ {
				same = same && sameValues(atModel(a, p), atModel(b, p))
			}
			if got := rows.Same(rows.Canon(a), rows.Canon(b)); got != same {
				t.Fatalf("Canon of %v and of %v: one is %v", a, b, got)
			}
			if same {
				alike++
			}
		}
	}
	if alike <= len(lists) {
		t.Error("no two lists are alike")
	}
}

// stateModel is tables as a plain list, in no order.
type stateModel []named

type named struct {
	name string
	rows []api.Row
}

func (m stateModel) put(name string, l []api.Row) stateModel {
	out := slices.DeleteFunc(slices.Clone(m), func(x named) bool { return x.name == name })
	return append(out, named{name, sortedModel(l)})
}

func (m stateModel) names() []string {
	var out []string
	for _, x := range m {
		out = append(out, x.name)
	}
	slices.Sort(out)
	return out
}

func (m stateModel) get(name string) []api.Row {
	for _, x := range m {
		if x.name == name {
			return x.rows
		}
	}
	return nil
}

func (m stateModel) same(o stateModel) bool {
	for _, name := range m.names() {
		if !sameRows(m.get(name), o.get(name)) {
			return false
		}
	}
	return slices.Equal(m.names(), o.names())
}

// TestP15_2AllShortRuns tries all runs of few Puts, each on a fork of what is ahead of it, and holds all states against one another.
func TestP15_2AllShortRuns(t *testing.T) {
	names := []string{"t", "a", "", "Z", "to\xff"}
	lists := [][]api.Row{nil, {row(0, 2, 1)}, {row(0, 2, 1), row(0, 2)}, {row(0, 2), row(0, 2, 1)}, {row(0, 2, 1), row(0, 2, 1)}}
	type both struct {
		state *rows.State
		model stateModel
	}
	var all []both
	check := func(b both) {
		t.Helper()
		if got, want := b.state.Names(), b.model.names(); !slices.Equal(got, want) {
			t.Fatalf("Names() = %q, not %q", got, want)
		}
		for _, name := range append(names, "none") {
			wantRows(t, "Get", name, b.state.Get(name), b.model.get(name))
		}
	}
	var grow func(b both, left int)
	grow = func(b both, left int) {
		all = append(all, b)
		for _, name := range names {
			for _, l := range lists {
				if left == 0 {
					continue
				}
				next := both{b.state.Fork(), b.model}
				e := next.state.Put(name, l)
				if (name == "") != (e == api.ErrForm) || name != "" && e != api.OK {
					t.Fatalf("Put(%q, %v) = %d", name, l, e)
				}
				if e == api.OK {
					next.model = b.model.put(name, l)
				}
				check(next)
				grow(next, left-1)
			}
		}
		check(b)
	}
	grow(both{rows.New(), nil}, 2)
	for _, a := range all {
		for _, b := range all {
			if got := a.state.Same(b.state); got != a.model.same(b.model) {
				t.Fatalf("Same of %v and %v: %v", a.model, b.model, got)
			}
		}
	}
}
