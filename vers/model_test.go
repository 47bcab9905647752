package vers_test

import (
	"cmp"
	"fmt"
	"slices"
	"testing"

	"regesta/api"
	"regesta/codec"
	"regesta/rows"
	"regesta/vers"
)

// The model is the chapter's words, as slowly as they are said: a plain list of versions, gone through instant by instant.

type model struct {
	last int
	l    []api.Version
}

func rowOrder(a, b api.Row) int { return codec.Compare(a, b) }

func versionOrder(a, b api.Version) int {
	return cmp.Or(cmp.Compare(a.Sys.From, b.Sys.From), cmp.Compare(a.Sys.To, b.Sys.To), cmp.Compare(a.Table, b.Table), rowOrder(a.Row, b.Row))
}

func isOf(v api.Version, table string, r api.Row) bool {
	return v.Table == table && rowOrder(v.Row, r) == 0
}

func inForce(v api.Version, at int) bool { return v.Sys.From <= at && at < v.Sys.To }

func ofModel(last int, l []api.Version) api.Errno {
	if last < 0 || last > clock {
		return api.ErrRange
	}
	for _, v := range l {
		sys := v.Sys
		if v.Table == "" || !codec.Right(v.Row) || sys.From <= 0 || sys.To <= sys.From || sys.From > last || sys.To != forever && sys.To > last {
			return api.ErrForm
		}
	}
	for i, v := range l {
		for _, w := range l[:i] {
			if isOf(v, w.Table, w.Row) && v.Sys.From < w.Sys.To && w.Sys.From < v.Sys.To {
				return api.ErrExist
			}
		}
	}
	if len(l) > 60 {
		return api.ErrSpace
	}
	return api.OK
}

func often(l []api.Row, r api.Row) int {
	n := 0
	for _, x := range l {
		if rowOrder(x, r) == 0 {
			n++
		}
	}
	return n
}

func (m model) forceOf(table string, at int) []api.Row {
	var out []api.Row
	for _, v := range m.l {
		if v.Table == table && inForce(v, at) {
			out = append(out, v.Row)
		}
	}
	slices.SortFunc(out, rowOrder)
	return out
}

func (m model) refusal(at int, l []api.Change) api.Errno {
	if at <= m.last || at > clock {
		return api.ErrRange
	}
	for i, x := range l {
		twice := slices.ContainsFunc(l[:i], func(y api.Change) bool { return y.Table == x.Table })
		if x.Table == "" || twice || slices.ContainsFunc(x.Come, func(r api.Row) bool { return !codec.Right(r) }) {
			return api.ErrForm
		}
	}
	count := len(m.l)
	exist := false
	for _, x := range l {
		force := m.forceOf(x.Table, m.last)
		for _, r := range x.Gone {
			if often(x.Gone, r) > often(force, r) {
				return api.ErrNoent
			}
		}
		for _, r := range x.Come {
			exist = exist || often(force, r)-often(x.Gone, r)+often(x.Come, r) > 1
		}
		count += len(x.Come)
	}
	if exist {
		return api.ErrExist
	}
	if count > 60 {
		return api.ErrSpace
	}
	return api.OK
}

func (m model) apply(at int, l []api.Change) (model, api.Errno) {
	if e := m.refusal(at, l); e != api.OK {
		return m, e
	}
	next := model{last: at}
	for _, v := range m.l {
		for _, x := range l {
			if v.Sys.To == forever && v.Table == x.Table && often(x.Gone, v.Row) > 0 {
				v.Sys.To = at
			}
		}
		next.l = append(next.l, v)
	}
	for _, x := range l {
		for _, r := range x.Come {
			next.l = append(next.l, version(x.Table, r, at, forever))
		}
	}
	return next, api.OK
}

func (m model) drop(until int) (model, int) {
	next := model{last: m.last}
	for _, v := range m.l {
		if v.Sys.To > until {
			next.l = append(next.l, v)
		}
	}
	return next, len(m.l) - len(next.l)
}

func (m model) tables(instants ...int) []string {
	var names []string
	for _, v := range m.l {
		there := slices.ContainsFunc(instants, func(at int) bool { return inForce(v, at) })
		if there && !slices.Contains(names, v.Table) {
			names = append(names, v.Table)
		}
	}
	slices.Sort(names)
	return names
}

// less are a's, each as often as it is there oftener than in b.
func less(a, b []api.Row) []api.Row {
	var out []api.Row
	for _, r := range a {
		if often(out, r) < often(a, r)-often(b, r) {
			out = append(out, r)
		}
	}
	return out
}

func (m model) between(a, b int) []api.Change {
	var out []api.Change
	for _, name := range m.tables(a, b) {
		x := change(name, less(m.forceOf(name, a), m.forceOf(name, b)), less(m.forceOf(name, b), m.forceOf(name, a)))
		if len(x.Gone)+len(x.Come) > 0 {
			out = append(out, x)
		}
	}
	return out
}

// duringModel goes through the instants of w at which something may change: a row opens where it was not ahead, and closes where it is no more.
func duringModel(l []api.Version, name string, w api.Span) []api.Out {
	instants := []int{w.From, w.To}
	for _, v := range l {
		instants = append(instants, v.Sys.From, v.Sys.To)
	}
	slices.Sort(instants)
	var open, outs []api.Out
	for _, at := range slices.Compact(instants) {
		if at < w.From || at > w.To {
			continue
		}
		var still []api.Out
		for _, v := range l {
			if v.Table != name || at >= w.To || !inForce(v, at) {
				continue
			}
			place := slices.IndexFunc(open, func(o api.Out) bool { return isOf(v, name, api.Row{Vals: o.Vals, Span: o.Span}) })
			if place >= 0 {
				still = append(still, open[place])
				open = slices.Delete(open, place, place+1)
			} else {
				still = append(still, out(v.Row, at, 0))
			}
		}
		for _, o := range open {
			o.Sys.To = at
			outs = append(outs, o)
		}
		open = still
	}
	slices.SortFunc(outs, func(a, b api.Out) int {
		return cmp.Or(cmp.Compare(a.Sys.From, b.Sys.From), rowOrder(api.Row{Vals: a.Vals, Span: a.Span}, api.Row{Vals: b.Vals, Span: b.Span}), cmp.Compare(a.Sys.To, b.Sys.To))
	})
	return outs
}

func (m model) instants() []int {
	var out []int
	for at := range m.last + 1 {
		if slices.ContainsFunc(m.l, func(v api.Version) bool { return v.Sys.From == at || v.Sys.To == at }) {
			out = append(out, at)
		}
	}
	return out
}

func (m model) story(name string, v api.Value) []api.Version {
	var out []api.Version
	for _, x := range m.l {
		if x.Table == name && x.Row.Vals[0] == v {
			out = append(out, x)
		}
	}
	slices.SortFunc(out, versionOrder)
	return out
}

// agree holds all that a store tells against the model.
func agree(t *testing.T, s *vers.Store, m model) {
	t.Helper()
	want(t, "Last", s.Last(), m.last)
	want(t, "Versions", s.Versions(), slices.SortedFunc(slices.Values(m.l), versionOrder))
	want(t, "Instants", s.Instants(), m.instants())
	names := []string{"t", "s", "none"}
	for at := range m.last + 3 {
		state := s.AsOf(at)
		want(t, "Names", state.Names(), m.tables(at))
		for _, name := range names {
			want(t, fmt.Sprintf("AsOf(%d)", at), state.Get(name), m.forceOf(name, at))
		}
		for b := range m.last + 3 {
			want(t, fmt.Sprintf("Between(%d, %d) of %v", at, b, m.l), s.Between(at, b), m.between(at, b))
			for _, name := range names {
				w := api.Span{From: at, To: b}
				outs := s.During(name, w)
				want(t, fmt.Sprintf("During(%q, %v) of %v", name, w, m.l), outs, duringModel(m.l, name, w))
				sound(t, s, name, w, outs)
			}
		}
	}
	if !s.Current().Same(s.AsOf(m.last)) {
		t.Fatal("Current is not the state at Last")
	}
	for _, name := range names {
		for _, v := range []api.Value{num(1), num(2), num(3), str("1")} {
			want(t, "Story", s.Story(name, v), m.story(name, v))
		}
	}
}

// sound is P18.5: at each instant of w the rows that During tells with it are the state's.
func sound(t *testing.T, s *vers.Store, name string, w api.Span, outs []api.Out) {
	t.Helper()
	for at := w.From; at < w.To; at++ {
		var there []api.Row
		for _, o := range outs {
			if o.Sys.From <= at && at < o.Sys.To {
				there = append(there, api.Row{Vals: o.Vals, Span: o.Span})
			}
		}
		if !rows.Same(there, s.AsOf(at).Get(name)) {
			t.Fatalf("During(%q, %v) at %d: %v, not %v", name, w, at, there, s.AsOf(at).Get(name))
		}
	}
}

// steps are changes of a few rows, which may be refused at one time and not at another.
func steps() [][]api.Change {
	a, b, c := row(0, 5, 1, 0), row(5, 9, 1, 1), row(0, 5, 2)
	return [][]api.Change{
		nil, {change("t", nil, list(a))}, {change("t", list(a), nil)}, {change("t", list(a), list(a))}, {change("t", list(a), list(b))}, {change("t", nil, list(c, b))}, {change("s", nil, list(a)), change("t", list(b), nil)}, {change("t", list(a, c), list(c)), change("s", list(a), nil)}, {change("t", list(c), list(a)), change("s", nil, nil)}, {change("s", list(a), list(a, c))},
		{change("t", list(a, a), nil)}, {change("t", nil, list(c, c))}, {change("t", list(b, a, c), list(row(5, 5, 1)))},
	}
}

// runs calls look with each run of at most that many steps, in the store and in the model.
func runs(t *testing.T, s *vers.Store, m model, length int, look func(*vers.Store, model)) {
	t.Helper()
	look(s, m)
	if length == 0 {
		return
	}
	for i, l := range steps() {
		at := m.last + 1 + i%2
		mine := s.Fork()
		yours, errno := m.apply(at, l)
		if e := mine.Apply(at, l); e != errno {
			t.Fatalf("Apply(%d, %v) behind %v = %d, not %d", at, l, m.l, e, errno)
		}
		if errno != api.OK {
			want(t, "the store behind a refusal", whole(mine), whole(s))
			continue
		}
		// P18.4: ahead of it all is as it was.
		for ahead := range at {
			if !mine.AsOf(ahead).Same(s.AsOf(ahead)) {
				t.Fatalf("Apply(%d, %v) changes the state at %d", at, l, ahead)
			}
		}
		runs(t, mine, yours, length-1, look)
	}
}

func TestP18_2AllShortRuns(t *testing.T) {
	tried := 0
	runs(t, vers.New(), model{}, 4, func(s *vers.Store, m model) {
		agree(t, s, m)
		tried++
		// What is there makes a store, which is the same.
		again := of(t, m.last, m.l...)
		want(t, "Of its versions", whole(again), whole(s))
		for until := range m.last + 2 {
			fork := s.Fork()
			left, n := m.drop(until)
			if got := fork.Drop(until); got != n {
				t.Fatalf("Drop(%d) of %v = %d, not %d", until, m.l, got, n)
			}
			want(t, "Versions behind Drop", fork.Versions(), slices.SortedFunc(slices.Values(left.l), versionOrder))
			// What is told from there on is as it was.
			for at := until; at < m.last+2; at++ {
				if !fork.AsOf(at).Same(s.AsOf(at)) {
					t.Fatalf("Drop(%d) changes the state at %d", until, at)
				}
			}
		}
	})
	if tried < 250 {
		t.Errorf("only %d runs were tried", tried)
	}
}

func TestP18_1AllShortLists(t *testing.T) {
	a, b := row(0, 5, 1, 0), row(0, 5, 2)
	candidates := []api.Version{
		version("t", a, 1, 2), version("t", a, 2, 3), version("t", a, 1, 3), version("t", a, 2, forever), version("t", a, 3, forever), version("s", a, 1, 3), version("t", b, 2, 3), version("t", b, 1, forever), version("t", a, 4, forever), version("t", a, 2, 4), version("", a, 1, 2), version("t", row(5, 5, 1), 1, 2),
	}
	seen := map[api.Errno]int{}
	var grow func(l []api.Version)
	grow = func(l []api.Version) {
		for last := -1; last <= 4; last++ {
			s, e := vers.Of(last, l)
			if errno := ofModel(last, l); e != errno || (s == nil) != (e != api.OK) {
				t.Fatalf("Of(%d, %v) = %d, not %d", last, l, e, errno)
			}
			if e == api.OK && last == 3 {
				agree(t, s, model{last, l})
			}
			seen[e]++
		}
		if len(l) == 3 {
			return
		}
		for _, v := range candidates {
			grow(append(slices.Clip(l), v))
		}
	}
	grow(nil)
	if len(seen) != 4 || seen[api.OK] < 100 || seen[api.ErrExist] < 100 {
		t.Errorf("seen are %v", seen)
	}
}

// P18.6: Apply of Diff makes the state; then Diff is none.
func TestP18_6DiffAndApply(t *testing.T) {
	a, b, c := row(0, 5, 1, 0), row(5, 9, 1, 1), row(0, 5, 2)
	lists := [][]api.Row{nil, list(a), list(b), list(a, b), list(c), list(a, c), list(c, b, a)}
	tried := 0
	for _, t1 := range lists {
		for _, s1 := range lists {
			for _, t2 := range lists {
				for _, u2 := range lists {
					s := vers.New()
					first, second := state(t, "t s", t1, s1), state(t, "t u", t2, u2)
					apply(t, s, 1, s.Diff(first)...)
					diff := s.Diff(second)
					apply(t, s, 4, diff...)
					if left := s.Diff(second); len(left) > 0 {
						t.Fatalf("behind Apply of Diff there is %v", left)
					}
					for _, name := range []string{"t", "s", "u"} {
						if !rows.Same(s.Current().Get(name), second.Get(name)) || !rows.Same(s.AsOf(3).Get(name), first.Get(name)) {
							t.Fatalf("%q has %v, and had %v", name, s.Current().Get(name), s.AsOf(3).Get(name))
						}
					}
					// What came between is the same.
					want(t, "Between", s.Between(1, 4), diff)
					tried++
				}
			}
		}
	}
	if tried != 7*7*7*7 {
		t.Errorf("%d were tried", tried)
	}
}
