package keep_test

import (
	"cmp"
	"slices"
	"testing"

	"regesta/api"
	"regesta/keep"
)

// The model is the chapter's words, as slowly as they are said: rows are gone through point by point.

func valueOrder(a, b api.Value) int {
	return cmp.Or(cmp.Compare(a.Kind, b.Kind), cmp.Compare(a.Num, b.Num), cmp.Compare(a.Str, b.Str))
}

func rowOrder(a, b api.Row) int {
	for i := range min(len(a.Vals), len(b.Vals)) {
		if c := valueOrder(a.Vals[i], b.Vals[i]); c != 0 {
			return c
		}
	}
	return cmp.Or(cmp.Compare(len(a.Vals), len(b.Vals)), cmp.Compare(a.Span.From, b.Span.From), cmp.Compare(a.Span.To, b.Span.To))
}

func sorted(l []api.Row) []api.Row {
	return slices.SortedStableFunc(slices.Values(l), rowOrder)
}

// points are those of a span, one by one; one that is not right has none.
func points(s api.Span) []int {
	var out []int
	if s.From >= -1000 && s.To <= 1000 {
		for p := s.From; p < s.To; p++ {
			out = append(out, p)
		}
	}
	return out
}

func has(r api.Row, p int) bool {
	return r.Span.From >= -1000 && r.Span.To <= 1000 && r.Span.From <= p && p < r.Span.To
}

func together(a, b api.Row) bool {
	if len(a.Vals) == 0 || len(b.Vals) == 0 || a.Vals[0] != b.Vals[0] {
		return false
	}
	return slices.ContainsFunc(points(a.Span), func(p int) bool { return has(b, p) })
}

func keyAt(l []api.Row, v api.Value, p int) bool {
	return slices.ContainsFunc(l, func(r api.Row) bool { return len(r.Vals) > 0 && r.Vals[0] == v && has(r, p) })
}

func alone(r api.Row, col int, parents []api.Row) bool {
	if col < 0 || col >= len(r.Vals) {
		return false
	}
	return slices.ContainsFunc(points(r.Span), func(p int) bool { return !keyAt(parents, r.Vals[col], p) })
}

func twiceModel(l []api.Row) []api.Row {
	in := sorted(l)
	for i := range in {
		for j := i + 1; j < len(in); j++ {
			if together(in[i], in[j]) {
				return in[i : i+1]
			}
		}
	}
	return nil
}

func aloneModel(l []api.Row, col int, parents []api.Row) []api.Row {
	for _, r := range sorted(l) {
		if alone(r, col, parents) {
			return list(r)
		}
	}
	return nil
}

func brokenModel(l []api.Row, refers bool, col int, parents []api.Row) []api.Row {
	var out []api.Row
	in := sorted(l)
	for i, r := range in {
		shares := false
		for j := range in {
			shares = shares || i != j && together(r, in[j])
		}
		if shares || refers && alone(r, col, parents) {
			out = append(out, r)
		}
	}
	return out
}

// grown calls look with each list of candidates of at most that length.
func grown(candidates []api.Row, length int, look func([]api.Row)) {
	var grow func(front []api.Row, left int)
	grow = func(front []api.Row, left int) {
		look(front)
		if left == 0 {
			return
		}
		for _, r := range candidates {
			grow(append(slices.Clip(front), r), left-1)
		}
	}
	grow(nil, length)
}

// Rows of a key that overlap, meet, lie within one another, or apart by one point; some have no values, some no points.
func candidates() []api.Row {
	return []api.Row{
		row(0, 2, 1, 1), row(2, 4, 1, 1), row(1, 3, 1, 2), row(3, 4, 1, 2), row(0, 4, 1), row(0, 2, 2, 1), row(1, 4, 2, 3), row(0, 4, 1, "1"), row(1, 3), row(0, 4, "1", 2),
		row(2, 2, 1, 1), row(3, 1, 1, 2), row(2, 1001, 1, 1), row(-1001, 3, 2, 2), row(2, 3, api.Value{Kind: 9, Num: 1, Str: "a"}, 1),
	}
}

func TestP17_1TwiceOfAllShortLists(t *testing.T) {
	tried, found := 0, 0
	grown(candidates(), 3, func(l []api.Row) {
		want := twiceModel(l)
		wantTwice(t, l, want)
		tried, found = tried+1, found+len(want)
	})
	if tried < 3000 || found < 500 || found > tried-500 {
		t.Errorf("%d of %d have one", found, tried)
	}
}

func TestP17_1AloneOfAllShortLists(t *testing.T) {
	parents := []api.Row{row(0, 1, 1), row(1, 2, 1), row(2, 4, 1), row(0, 3, 1, 2), row(0, 4, 2), row(0, 4, "1"), row(1, 2), row(-1001, 4, 1), row(2, 1001, 1), row(3, 1, 1)}
	tried, found := 0, 0
	grown(candidates(), 2, func(l []api.Row) {
		grown(parents, 3, func(parents []api.Row) {
			for col := -1; col <= 2; col++ {
				want := aloneModel(l, col, parents)
				wantAlone(t, l, col, parents, want)
				tried, found = tried+1, found+len(want)
			}
		})
	})
	if tried < 100000 || found < 10000 || found > tried-10000 {
		t.Errorf("%d of %d have one", found, tried)
	}
}

func TestP17_5BrokenOfAllShortLists(t *testing.T) {
	c := two(t)
	lists := [][]api.Row{nil, list(row(0, 4, 1)), list(row(0, 2, 1), row(3, 4, 1)), list(row(0, 4, 2), row(1, 2, 1), row(2, 4, 1))}
	broken := 0
	grown(candidates(), 3, func(l []api.Row) {
		for _, parents := range lists {
			want := brokenModel(l, true, 1, parents)
			wantBroken(t, c, state(t, put{"p", parents}, put{"q", l}), "q", want)
			broken += len(want)
		}
		wantBroken(t, c, state(t, put{"p", l}), "p", brokenModel(l, false, 0, nil))
	})
	if broken < 10000 {
		t.Errorf("only %d are broken", broken)
	}
}

// holds is P17.3, point by point: no key stands twice, and what refers is a key of the parent's.
func holds(l, parents []api.Row) (keys, refs bool) {
	keys, refs = true, true
	for p := -2; p <= 6; p++ {
		var there []api.Value
		for _, r := range l {
			if !has(r, p) {
				continue
			}
			keys = keys && !slices.Contains(there, r.Vals[0])
			refs = refs && keyAt(parents, r.Vals[1], p)
			there = append(there, r.Vals[0])
		}
	}
	return keys, refs
}

// asCut are the same rows, each cut at a point.
func asCut(l []api.Row, at int) []api.Row {
	var out []api.Row
	for _, r := range l {
		if r.Span.From < at && at < r.Span.To {
			out = append(out, api.Row{Vals: r.Vals, Span: api.Span{From: r.Span.From, To: at}}, api.Row{Vals: r.Vals, Span: api.Span{From: at, To: r.Span.To}})
		} else {
			out = append(out, r)
		}
	}
	return out
}

// P17.3: a state holds just if it does at each point; P17.4: however its rows are cut.
func TestP17_3AtEachPoint(t *testing.T) {
	c := two(t)
	fitting := []api.Row{row(0, 2, 1, 1), row(2, 4, 1, 1), row(1, 3, 1, 2), row(3, 4, 1, 2), row(0, 4, 2, 1), row(0, 2, 2, 1), row(1, 4, 3, 3)}
	lists := [][]api.Row{nil, list(row(0, 4, 1, 0)), list(row(0, 2, 1, 0), row(2, 4, 1, 1), row(0, 4, 2, 0)), list(row(0, 2, 1, 0), row(3, 4, 1, 0), row(1, 4, 2, 0), row(1, 4, 3, 0))}
	seen := map[api.Errno]int{}
	grown(fitting, 3, func(l []api.Row) {
		for _, parents := range lists {
			want := api.OK
			keys, refs := holds(l, parents)
			switch {
			case !keys:
				want = api.ErrKey
			case !refs:
				want = api.ErrRef
			}
			name := map[bool]string{true: "", false: "q"}[want == api.OK]
			for at := range 5 {
				wantState(t, c, state(t, put{"p", asCut(parents, at)}, put{"q", l}), name, want)
				wantState(t, c, state(t, put{"p", parents}, put{"q", asCut(l, at)}), name, want)
			}
			if got := len(keep.Broken(c, state(t, put{"p", parents}, put{"q", l}), "q")); (got == 0) != (want == api.OK) {
				t.Fatalf("%v, with the parents %v: %d are broken, and State is %d", l, parents, got, want)
			}
			seen[want]++
		}
	})
	if seen[api.OK] < 50 || seen[api.ErrKey] < 50 || seen[api.ErrRef] < 50 {
		t.Errorf("seen are %v", seen)
	}
}
