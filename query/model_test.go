package query_test

import (
	"cmp"
	"fmt"
	"slices"
	"strings"
	"testing"

	"regesta/api"
	"regesta/expr"
	"regesta/past"
	"regesta/query"
	"regesta/rows"
	"regesta/schema"
	"regesta/value"
)

// The model is the chapter's words: which rows each table has at each instant stands in plain lists, and what two rows have together is found point by point, and instant by instant.
type model struct {
	cols map[string][]api.Col
	now  map[string][]api.Row
	was  []map[string][]api.Row // by instants, the last one on and on
}

// The instants and points that are gone through: all that come up lie between.
const (
	firstPoint, endPoint = -3, 15
	lastAsked            = 12
)

func rightRow(r api.Row) bool {
	return len(r.Vals) > 0 && len(r.Vals) <= 4 && r.Span.From >= -1000 && r.Span.From < r.Span.To && r.Span.To <= 1000 && !slices.ContainsFunc(r.Vals, func(v api.Value) bool { return !value.Right(v) })
}

// each are the rows that are right, each once.
func each(l []api.Row) []api.Row {
	var once []api.Row
	for _, r := range l {
		if rightRow(r) && !slices.ContainsFunc(once, func(o api.Row) bool { return told(o) == told(r) }) {
			once = append(once, r)
		}
	}
	return once
}

func (m model) state(at int) map[string][]api.Row { return m.was[min(at, len(m.was)-1)] }

// together are the stretches of the numbers from first on, up to end, of which has says yes.
func together(first, end int, has func(n int) bool) []api.Span {
	var l []api.Span
	for n := first; n < end; n++ {
		if !has(n) {
			continue
		}
		if len(l) > 0 && l[len(l)-1].To == n {
			l[len(l)-1].To = n + 1
		} else {
			l = append(l, span(n, n+1))
		}
	}
	return l
}

func within(s api.Span, n int) bool { return s.From <= n && n < s.To }

// ahead tells whether an out row comes ahead of another one.
func ahead(a, b api.Out) bool {
	for i := range min(len(a.Vals), len(b.Vals)) {
		if c := value.Compare(a.Vals[i], b.Vals[i]); c != 0 {
			return c < 0
		}
	}
	if len(a.Vals) != len(b.Vals) {
		return len(a.Vals) < len(b.Vals)
	}
	left := []int{a.Span.From, a.Span.To, a.Sys.From, a.Sys.To}
	right := []int{b.Span.From, b.Span.To, b.Sys.From, b.Sys.To}
	return slices.Compare(left, right) < 0
}

// orderedModel puts each row behind all that come ahead of it, or are the same.
func orderedModel(l []api.Out, col int) []api.Out {
	first := func(a, b api.Out) bool {
		hasA, hasB := col >= 0 && col < len(a.Vals), col >= 0 && col < len(b.Vals)
		if hasA != hasB {
			return hasB
		}
		if hasA && a.Vals[col] != b.Vals[col] {
			return value.Compare(a.Vals[col], b.Vals[col]) < 0
		}
		return ahead(a, b)
	}
	var out []api.Out
	for _, o := range l {
		place := 0
		for place < len(out) && !first(o, out[place]) {
			place++
		}
		out = slices.Insert(out, place, o)
	}
	return out
}

// pair is a row of a table, or one of each of two; by its key it is found again at other instants.
type pair struct {
	vals   []api.Value
	points api.Span
	key    string
}

// pairs are what a Select's tables have in a state, joined if there is a Join.
func (m model) pairs(state map[string][]api.Row, s api.Stmt) []pair {
	var l []pair
	for _, x := range each(state[s.Name]) {
		if s.Join == "" {
			l = append(l, pair{x.Vals, x.Span, told(x)})
			continue
		}
		i, j := placeOf(m.cols[s.Name], s.On[0]), placeOf(m.cols[s.Join], s.On[1])
		for _, y := range each(state[s.Join]) {
			points := together(firstPoint, endPoint, func(n int) bool { return within(x.Span, n) && within(y.Span, n) })
			if i < len(x.Vals) && j < len(y.Vals) && x.Vals[i] == y.Vals[j] && len(points) > 0 {
				l = append(l, pair{slices.Concat(x.Vals, y.Vals), points[0], told(x) + told(y)})
			}
		}
	}
	return l
}

func placeOf(cols []api.Col, name string) int {
	return slices.IndexFunc(cols, func(c api.Col) bool { return c.Name == name })
}

// endOf is the instant behind the last one that a while asks for.
func endOf(s api.Stmt) int {
	if s.Time == api.Between {
		return s.B + 1
	}
	return s.B
}

// unordered are all out rows of a Select with all their columns, ahead of Where.
func (m model) unordered(s api.Stmt) []api.Out {
	var l []api.Out
	state, end := m.now, endOf(s)
	if s.Time == api.AsOf {
		state = m.state(s.A)
	}
	if s.Time == api.Now || s.Time == api.AsOf {
		for _, x := range m.pairs(state, s) {
			l = append(l, api.Out{Vals: x.vals, Span: x.points})
		}
		return l
	}
	there := map[int][]string{}
	var all []pair
	for at := s.A; at < end; at++ {
		for _, x := range m.pairs(m.state(at), s) {
			there[at] = append(there[at], x.key)
			if !slices.ContainsFunc(all, func(o pair) bool { return o.key == x.key }) {
				all = append(all, x)
			}
		}
	}
	for _, x := range all {
		for _, sys := range together(s.A, end, func(at int) bool { return slices.Contains(there[at], x.key) }) {
			l = append(l, api.Out{Vals: x.vals, Span: x.points, Sys: sys})
		}
	}
	return l
}

func (m model) allCols(s api.Stmt) []api.Col {
	return slices.Concat(m.cols[s.Name], m.cols[s.Join])
}

func (m model) answer(s api.Stmt) []api.Out {
	cols := m.allCols(s)
	var holding []api.Out
	for _, o := range m.unordered(s) {
		if expr.Holds(s.Where, cols, o.Vals) {
			holding = append(holding, o)
		}
	}
	answer := orderedModel(holding, placeOf(cols, s.Order))
	if len(s.Cols) == 0 {
		return answer
	}
	for i, o := range answer {
		answer[i].Vals = nil
		for _, name := range s.Cols {
			if place := placeOf(cols, name); place < len(o.Vals) {
				answer[i].Vals = append(answer[i].Vals, o.Vals[place])
			}
		}
	}
	return answer
}

// dice are numbers that are the same in each run.
type dice struct{ seed uint64 }

func (d *dice) below(n int) int {
	d.seed = d.seed*6364136223846793005 + 1442695040888963407
	return int(d.seed >> 33 % uint64(n))
}

func one[T any](d *dice, l []T) T { return l[d.below(len(l))] }

// candidates are rows of a table, most of which have as many values as columns.
func candidates(name string) []api.Row {
	if name == "t" {
		return list(row(0, 5, 1, 7), row(5, 9, 1, 7), row(0, 9, 1, 2), row(3, 6, 2, 1), row(2, 9, 2, 2), row(0, 10, 3, 1), row(0, 4, 1), row(1, 9, 2, 3, 4), row(4, 5, 2, "x"))
	}
	return list(row(0, 9, 1, "x"), row(4, 8, 1, "y"), row(0, 3, 2, "x"), row(3, 9, 2, ""), row(1, 2, 7, "x"), row(0, 10, 3, "x"), row(2, 5, 1), row(2, 7, 2, "x", 3))
}

func some(d *dice, l []api.Row) []api.Row {
	var out []api.Row
	for _, r := range l {
		if d.below(5) < 2 {
			out = append(out, r)
		}
	}
	return out
}

// played is a store with some commits, and its model.
func played(t *testing.T, d *dice) (store, model) {
	t.Helper()
	s := store{catalog(t), rows.New(), past.New()}
	m := model{cols: map[string][]api.Col{}, now: map[string][]api.Row{}, was: []map[string][]api.Row{{}}}
	for _, table := range s.c.Tables() {
		m.cols[table.Name] = table.Cols
	}
	for range 2 + d.below(3) {
		// The state stays for a while, then another one is committed.
		for range d.below(3) {
			m.was = append(m.was, m.was[len(m.was)-1])
		}
		next := map[string][]api.Row{"t": some(d, candidates("t")), "u": some(d, candidates("u"))}
		target := rows.New()
		for name, l := range next {
			put(t, target, name, l...)
		}
		if e := s.p.Apply(len(m.was), s.p.Diff(target)); e != api.OK {
			t.Fatal(e)
		}
		m.was = append(m.was, next)
	}
	for _, name := range []string{"t", "u"} {
		l := some(d, candidates(name))
		l = slices.Concat(l, l[:len(l)/2], list(row(5, 5, 1, 1), row(0, 2000, 1, 1), row(0, 5), row(0, 5, 1, 2, 3, 4, 5), row(0, 5, api.Value{}, 1), row(0, 5, 1, api.Value{Kind: 9})))
		put(t, s.now, name, l...)
		m.now[name] = l
	}
	return s, m
}

// question is the text of a Select, put together by chance.
func question(d *dice) string {
	join := one(d, []string{"", "", " join u on k = m", " join u on v = m"})
	names, conds := []string{"k", "v"}, []string{"k = 1", "k = 2", "k = 9", "k > 1", "v = 7", "v <> 1", "v <= 2"}
	if join != "" {
		names, conds = append(names, "m", "n"), append(conds, "m = 1", "m = 2", "m >= 2", "n = 'x'", "n < 'y'", "n = ''")
	}
	told := "*"
	if d.below(2) > 0 {
		told = one(d, names)
		for range d.below(3) {
			told += ", " + one(d, names)
		}
	}
	from := d.below(lastAsked)
	when := one(d, []string{"", fmt.Sprintf(" as of %d", from), fmt.Sprintf(" from %d to %d", from, from+1+d.below(lastAsked-from)), fmt.Sprintf(" between %d and %d", from, from+d.below(lastAsked-from))})
	where := ""
	if d.below(3) > 0 {
		where = " where " + condition(d, conds, 2)
	}
	order := ""
	if d.below(2) > 0 {
		order = " order " + one(d, names)
	}
	return "select " + told + " in t" + join + when + where + order
}

func condition(d *dice, conds []string, deep int) string {
	kind := d.below(5)
	if deep == 0 || kind < 2 {
		return one(d, conds)
	}
	if kind == 2 {
		return "not " + condition(d, conds, deep-1)
	}
	return "(" + condition(d, conds, deep-1) + one(d, []string{" and ", " or "}) + condition(d, conds, deep-1) + ")"
}

// P21.2, and E1: what is answered is told by the chapter alone.
func TestP21_2AgainstTheModel(t *testing.T) {
	d := &dice{seed: 11}
	kinds := map[string]int{}
	for range 60 {
		s, m := played(t, d)
		for range 200 {
			text := question(d)
			x := stmt(t, text)
			got, e := s.run(x)
			if e != api.OK {
				t.Fatalf("%s = %d", text, e)
			}
			if wanted := m.answer(x); !query.Same(got, wanted) {
				t.Fatalf("%s = %v, not %v; now %v, was %v", text, got, wanted, m.now, m.was)
			}
			kinds[fmt.Sprint(x.Time, x.Join != "", len(x.Where) > 0, x.Order != "", len(x.Cols) > 0)] += len(got)
		}
	}
	if len(kinds) != 4*2*2*2*2 {
		t.Errorf("only %d kinds of questions were asked", len(kinds))
	}
	for kind, n := range kinds {
		if n < 20 {
			t.Errorf("questions %s were answered with only %d rows", kind, n)
		}
	}
}

// P21.3: how rows are found does not matter: a condition that no plan can look up, since a not stands around it, is answered alike; and so is what is told without one, of which it holds.
func TestP21_3HowRowsAreFound(t *testing.T) {
	d := &dice{seed: 3}
	found := 0
	for range 40 {
		s, m := played(t, d)
		for range 60 {
			text := question(d)
			front, where, ok := strings.Cut(text, " where ")
			if !ok {
				continue
			}
			where, order, ordered := strings.Cut(where, " order ")
			if ordered {
				order = " order " + order
			}
			got := s.answer(t, text)
			want(t, text, got, s.answer(t, front+" where not not "+where+order))
			all := stmt(t, front+order)
			all.Cols = nil
			rest, e := s.run(all)
			if e != api.OK {
				t.Fatal(e)
			}
			x := stmt(t, text)
			rest = slices.DeleteFunc(rest, func(o api.Out) bool { return !expr.Holds(x.Where, m.allCols(x), o.Vals) })
			want(t, text, got, query.Columns(rest, m.allCols(x), x.Cols))
			found += len(got)
		}
	}
	if found < 1000 {
		t.Errorf("only %d rows were found", found)
	}
}

func sorted(l []api.Out) []api.Out { return query.Ordered(l, -1) }

// P21.4: of a while, those whose Sys has an instant are those of AsOf there, each as often.
func TestP21_4EachInstant(t *testing.T) {
	d := &dice{seed: 5}
	instants := 0
	for range 40 {
		s, _ := played(t, d)
		for range 40 {
			x := stmt(t, question(d))
			if x.Time != api.FromTo && x.Time != api.Between {
				continue
			}
			got, e := s.run(x)
			if e != api.OK {
				t.Fatal(e)
			}
			end := endOf(x)
			for at := x.A; at < end; at++ {
				var there []api.Out
				for _, o := range got {
					if within(o.Sys, at) {
						there = append(there, api.Out{Vals: o.Vals, Span: o.Span})
					}
				}
				then := x
				then.Time, then.A, then.B = api.AsOf, at, 0
				wanted, e := s.run(then)
				if e != api.OK {
					t.Fatal(e)
				}
				want(t, fmt.Sprintf("%v at %d", x, at), sorted(there), sorted(wanted))
				instants += len(there)
			}
			for _, o := range got {
				if o.Sys.From < x.A || o.Sys.From >= o.Sys.To || o.Sys.To > end {
					t.Fatalf("%v has %v", x, o)
				}
			}
		}
	}
	if instants < 1000 {
		t.Errorf("only %d rows were told", instants)
	}
}

// P21.5: an order changes nothing but the order.
func TestP21_5Order(t *testing.T) {
	d := &dice{seed: 8}
	for range 40 {
		s, _ := played(t, d)
		for range 40 {
			text, _, _ := strings.Cut(question(d), " order ")
			plain := s.answer(t, text)
			for _, name := range []string{"k", "v"} {
				want(t, text+", whatever the order,", sorted(s.answer(t, text+" order "+name)), sorted(plain))
			}
		}
	}
}

// E2: whatever is committed, rolled or pruned since, what was is answered as ever, down to the horizon.
func TestE2WhatWas(t *testing.T) {
	d := &dice{seed: 21}
	for range 40 {
		s, m := played(t, d)
		last := len(m.was) - 1
		later := store{s.c, s.now, s.p.Fork()}
		if e := later.p.Apply(last+1, later.p.Diff(rows.New())); e != api.OK {
			t.Fatal(e)
		}
		later.p.Roll()
		horizon := d.below(last + 1)
		if _, e := later.p.Prune(horizon); e != api.OK {
			t.Fatal(e)
		}
		for range 60 {
			text := question(d)
			x := stmt(t, text)
			got, e := later.run(x)
			switch {
			case x.Time != api.Now && x.A < horizon:
				if e != api.ErrPruned || len(got) > 0 {
					t.Fatalf("%s below the horizon %d = %v and %d", text, horizon, got, e)
				}
			case max(x.A, endOf(x)-1) <= last:
				want(t, text, fmt.Sprint(got, e), fmt.Sprint(s.answer(t, text), api.OK))
			}
		}
	}
}

// All pairs of some rows: Join is what they have together, point by point and instant by instant.
func TestP21_1JoinOfAllPairs(t *testing.T) {
	var l []api.Out
	for _, vals := range [][]api.Value{nil, values(1), values(1, 2), values(2), values("1", 1)} {
		for _, points := range []api.Span{span(0, 2), span(1, 3), span(2, 4), span(3, 3)} {
			for _, sys := range []api.Span{none, span(0, 1), span(0, 3), span(1, 2), span(2, 2), span(2, 4)} {
				l = append(l, api.Out{Vals: vals, Span: points, Sys: sys})
			}
		}
	}
	for i := -1; i <= 2; i++ {
		for j := -1; j <= 2; j++ {
			var wanted []api.Out
			for _, x := range l {
				for _, y := range l {
					got := query.Join(outs(x), outs(y), i, j)
					pair := joinModel(x, y, i, j)
					want(t, fmt.Sprintf("Join(%v, %v, %d, %d)", x, y, i, j), got, pair)
					wanted = append(wanted, pair...)
				}
			}
			slices.SortFunc(wanted, func(a, b api.Out) int { return cmp.Compare(number(ahead(b, a)), number(ahead(a, b))) })
			if !query.Same(query.Join(l, l, i, j), wanted) {
				t.Fatalf("Join of all at %d and %d is another one", i, j)
			}
		}
	}
}

func number(yes bool) int {
	if yes {
		return 1
	}
	return 0
}

func joinModel(x, y api.Out, i, j int) []api.Out {
	if i < 0 || j < 0 || i >= len(x.Vals) || j >= len(y.Vals) || x.Vals[i] != y.Vals[j] {
		return nil
	}
	points := together(firstPoint, endPoint, func(n int) bool { return within(x.Span, n) && within(y.Span, n) })
	instants := together(firstPoint, endPoint, func(n int) bool { return within(x.Sys, n) && within(y.Sys, n) })
	if x.Sys == none && y.Sys == none {
		instants = []api.Span{none}
	}
	if len(points) == 0 || len(instants) == 0 {
		return nil
	}
	return outs(api.Out{Vals: slices.Concat(x.Vals, y.Vals), Span: points[0], Sys: instants[0]})
}

// All short lists of some rows, at each column.
func TestP21_1OrderedOfShortLists(t *testing.T) {
	some := outs(still(0, 5), still(0, 5, 2), still(0, 5, 1, 2), still(0, 4, 1, 2), during(span(1, 2), 0, 5, 1, 2), still(0, 5, 1, 1), still(0, 5, 3, 1), still(0, 5, "a", 1), still(0, 5, 1, "a"))
	var grow func(l []api.Out)
	grow = func(l []api.Out) {
		for col := -1; col <= 2; col++ {
			want(t, fmt.Sprintf("Ordered(%v, %d)", l, col), query.Ordered(l, col), orderedModel(l, col))
		}
		if len(l) == 4 {
			return
		}
		for _, o := range some {
			grow(append(slices.Clip(l), o))
		}
	}
	grow(nil)
}

// P1: a catalog whose tables come and go between questions; the statement fits, or has its error.
func TestP1AnyStatement(t *testing.T) {
	d := &dice{seed: 77}
	s, _ := played(t, d)
	empty := store{schema.New(), s.now, s.p}
	for range 300 {
		x := stmt(t, question(d))
		if l, e := empty.run(x); e != api.ErrNoent || len(l) > 0 {
			t.Fatalf("without tables %v = %v and %d", x, l, e)
		}
		spoilt := x
		spoilt.Time = api.TimeKind(d.below(6))
		spoilt.A, spoilt.B = d.below(5)-2, d.below(5)-2
		spoilt.Kind = api.StmtKind(d.below(12))
		spoilt.On[d.below(2)] = one(d, []string{"", "k", "\xff"})
		if l, e := s.run(spoilt); e != api.OK && len(l) > 0 {
			t.Fatalf("%v = %v and %d", spoilt, l, e)
		}
	}
}
