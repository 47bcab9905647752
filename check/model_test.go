package check_test

import (
	"slices"
	"testing"

	"regesta/api"
	"regesta/check"
	"regesta/schema"
)

// model is the tables as a plain list; what is asked of a sound statement is told as causes, of which the first that applies is the answer.
type model []api.Table

type causes []api.Errno

func (c *causes) add(applies bool, e api.Errno) {
	if applies {
		*c = append(*c, e)
	}
}

func (c causes) first() api.Errno {
	if len(c) == 0 {
		return api.OK
	}
	return c[0]
}

func (m model) table(name string) (api.Table, bool) {
	i := slices.IndexFunc(m, func(t api.Table) bool { return t.Name == name })
	if i < 0 {
		return api.Table{}, false
	}
	return m[i], true
}

// kindOf is NoKind, if there is no such column.
func kindOf(cols []api.Col, name string) api.Kind {
	for _, c := range cols {
		if c.Name == name {
			return c.Kind
		}
	}
	return api.NoKind
}

func (c *causes) where(cols []api.Col, l []api.Cond) {
	for _, part := range l {
		if part.Kind == api.Cmp {
			kind := kindOf(cols, part.Col)
			c.add(kind == api.NoKind, api.ErrNoent)
			c.add(kind != part.Val.Kind, api.ErrType)
		}
	}
}

func (c *causes) period(s api.Stmt) {
	c.add(s.HasSpan && (s.Span.From >= s.Span.To || s.Span.From < -1000 || s.Span.To > 1000), api.ErrPeriod)
}

func (c *causes) sets(cols []api.Col, sets []api.Set) {
	for i, set := range sets {
		kind := kindOf(cols, set.Col)
		c.add(kind == api.NoKind, api.ErrNoent)
		c.add(len(cols) > 0 && set.Col == cols[0].Name, api.ErrState)
		c.add(slices.ContainsFunc(sets[:i], func(x api.Set) bool { return x.Col == set.Col }), api.ErrExist)
		c.add(kind != set.Val.Kind, api.ErrType)
	}
}

// cols are the columns that a Select tells, and all of its tables, and why not.
func (m model) cols(s api.Stmt) (told, all []api.Col, c causes) {
	first, ok := m.table(s.Name)
	c.add(!ok, api.ErrNoent)
	all = slices.Clone(first.Cols)
	if s.Join != "" {
		other, ok := m.table(s.Join)
		c.add(!ok, api.ErrNoent)
		all = append(all, other.Cols...)
		for _, x := range first.Cols {
			c.add(kindOf(other.Cols, x.Name) != api.NoKind, api.ErrExist)
		}
		left, right := kindOf(first.Cols, s.On[0]), kindOf(other.Cols, s.On[1])
		c.add(left == api.NoKind || right == api.NoKind, api.ErrNoent)
		c.add(left != right, api.ErrType)
	}
	for _, name := range s.Cols {
		c.add(kindOf(all, name) == api.NoKind, api.ErrNoent)
		told = append(told, api.Col{Name: name, Kind: kindOf(all, name)})
	}
	if len(s.Cols) == 0 {
		told = all
	}
	return told, all, c
}

func (m model) selection(s api.Stmt) causes {
	_, all, c := m.cols(s)
	asked := map[api.TimeKind][]int{api.AsOf: {s.A}, api.FromTo: {s.A, s.B}, api.Between: {s.A, s.B}}[s.Time]
	c.add(slices.ContainsFunc(asked, func(at int) bool { return at < 0 || at > 1<<30 }), api.ErrRange)
	c.add(s.Time == api.FromTo && s.A >= s.B, api.ErrPeriod)
	c.add(s.Time == api.Between && s.A > s.B, api.ErrPeriod)
	c.where(all, s.Where)
	c.add(s.Order != "" && kindOf(all, s.Order) == api.NoKind, api.ErrNoent)
	return c
}

func (m model) change(s api.Stmt) causes {
	var c causes
	t, ok := m.table(s.Name)
	c.add(!ok, api.ErrNoent)
	if s.Kind == api.Insert {
		c.add(!slices.EqualFunc(s.Vals, t.Cols, func(v api.Value, x api.Col) bool { return v.Kind == x.Kind }), api.ErrType)
	}
	c.sets(t.Cols, s.Sets)
	c.period(s)
	c.where(t.Cols, s.Where)
	return c
}

// answer is of sound statements that create nothing.
func (m model) answer(s api.Stmt) api.Errno {
	var c causes
	switch s.Kind {
	case api.Insert, api.Update, api.Delete:
		c = m.change(s)
	case api.Select:
		c = m.selection(s)
	case api.Prune:
		c.add(s.A < 0 || s.A > 1<<30, api.ErrRange)
	}
	return c.first()
}

func spans() []api.Stmt {
	all := []api.Stmt{{}}
	for _, x := range []api.Span{{From: 0, To: 5}, {From: -1000, To: 1000}, {From: 999, To: 1000}, {From: 5, To: 5}, {}, {From: 6, To: 5}, {From: -1001, To: 0}, {From: 0, To: 1001}, {From: -1 << 40, To: 1 << 40}} {
		all = append(all, api.Stmt{HasSpan: true, Span: x})
	}
	return all
}

func wheres(t *testing.T) [][]api.Cond {
	all := [][]api.Cond{nil}
	for _, text := range []string{"k = 1", "v >= 'x'", "k = 'x'", "g = 1", "m = 1", "(g = 1 and k = 'x')", "(k = 'x' or g = 1)", "(k = 1 and not (w = 2 or v = 1))"} {
		all = append(all, condition(t, text))
	}
	return all
}

// lists are all of one up to most members.
func lists[T any](members []T, most int) [][]T {
	var all [][]T
	longest := [][]T{nil}
	for range most {
		var next [][]T
		for _, l := range longest {
			for _, x := range members {
				next = append(next, append(slices.Clip(l), x))
			}
		}
		all, longest = append(all, next...), next
	}
	return all
}

func changes(t *testing.T) []api.Stmt {
	var all []api.Stmt
	values := lists([]api.Value{num(7), str("x")}, 5)
	sets := lists([]api.Set{{Col: "v", Val: str("a")}, {Col: "v", Val: num(1)}, {Col: "w", Val: num(1)}, {Col: "w", Val: str("b")}, {Col: "k", Val: num(1)}, {Col: "k", Val: str("c")}, {Col: "g", Val: num(1)}}, 3)
	for _, name := range []string{"t", "u", "g"} {
		for _, s := range spans() {
			s.Name = name
			if s.HasSpan {
				for _, v := range values {
					x := s
					x.Kind, x.Vals = api.Insert, v
					all = append(all, x)
				}
			}
			for i, l := range wheres(t) {
				x := s
				x.Kind, x.Where = api.Delete, l
				all = append(all, x)
				for j, set := range sets {
					if len(set) == 1 || (i+j)%5 == 0 {
						x := s
						x.Kind, x.Sets, x.Where = api.Update, set, l
						all = append(all, x)
					}
				}
			}
		}
	}
	return all
}

func times() []api.Stmt {
	all := []api.Stmt{{}}
	for _, kind := range []api.TimeKind{api.AsOf, api.FromTo, api.Between} {
		for _, x := range [][2]int{{0, 0}, {0, 1}, {5, 4}, {-1, 5}, {3, -1}, {0, 1 << 30}, {1 << 30, 1 << 30}, {5, 1<<30 + 1}, {1<<30 + 1, 7}} {
			if kind == api.AsOf {
				x[1] = 0
			}
			all = append(all, api.Stmt{Time: kind, A: x[0], B: x[1]})
		}
	}
	return all
}

func selects(t *testing.T) []api.Stmt {
	heads := []api.Stmt{{}}
	for _, join := range []string{"u", "z", "t", "g"} {
		for _, on := range [][2]string{{"k", "m"}, {"v", "n"}, {"k", "n"}, {"m", "k"}, {"g", "m"}, {"k", "g"}, {"w", "w"}} {
			heads = append(heads, api.Stmt{Join: join, On: on})
		}
	}
	var all []api.Stmt
	count := 0
	for _, head := range heads {
		for _, name := range []string{"t", "u", "g"} {
			for _, cols := range [][]string{nil, {"k"}, {"m", "k"}, {"v", "k", "v"}, {"k", "g"}, {"n"}} {
				for _, s := range times() {
					for _, l := range wheres(t) {
						for _, order := range []string{"", "w", "n", "g"} {
							if count++; count%7 != 0 && (head.Join != "" || name == "g") {
								continue
							}
							s.Kind, s.Name, s.Join, s.On, s.Cols, s.Where, s.Order = api.Select, name, head.Join, head.On, cols, l, order
							all = append(all, s)
						}
					}
				}
			}
		}
	}
	return all
}

func others() []api.Stmt {
	all := []api.Stmt{{Kind: api.Begin}, {Kind: api.Commit}, {Kind: api.Rollback}}
	for _, at := range []int{-1 << 40, -1, 0, 1, 1<<30 - 1, 1 << 30, 1<<30 + 1, 1 << 40} {
		all = append(all, api.Stmt{Kind: api.Prune, A: at}, api.Stmt{Kind: api.Select, Name: "t", Time: api.AsOf, A: at})
	}
	return all
}

// Each statement of many, with all that may be wrong at once: the answer is what is named first.
func TestP13_2AgainstTheModel(t *testing.T) {
	c, m := full(t)
	before := c.Fork()
	seen := map[api.StmtKind]map[api.Errno]int{}
	for _, s := range slices.Concat(changes(t), selects(t), others()) {
		want := m.answer(s)
		if got := check.Stmt(c, s); got != want {
			t.Fatalf("Stmt(%+v) = %d, not %d", s, got, want)
		}
		if seen[s.Kind] == nil {
			seen[s.Kind] = map[api.Errno]int{}
		}
		seen[s.Kind][want]++
		if s.Kind == api.Select {
			agreeCols(t, c, m, s)
		}
	}
	for kind, errors := range map[api.StmtKind][]api.Errno{
		api.Insert: {api.OK, api.ErrNoent, api.ErrType, api.ErrPeriod}, api.Update: {api.OK, api.ErrNoent, api.ErrState, api.ErrExist, api.ErrType, api.ErrPeriod}, api.Delete: {api.OK, api.ErrNoent, api.ErrPeriod, api.ErrType},
		api.Select: {api.OK, api.ErrNoent, api.ErrExist, api.ErrType, api.ErrRange, api.ErrPeriod}, api.Prune: {api.OK, api.ErrRange}, api.Begin: {api.OK}, api.Commit: {api.OK}, api.Rollback: {api.OK},
	} {
		for _, e := range errors {
			if seen[kind][e] == 0 {
				t.Errorf("no statement of kind %d is answered with %d", kind, e)
			}
		}
	}
	if !c.Same(before) {
		t.Error("the catalog changed")
	}
}

func agreeCols(t *testing.T, c *schema.Catalog, m model, s api.Stmt) {
	t.Helper()
	told, _, why := m.cols(s)
	want := why.first()
	if want != api.OK {
		told = nil
	}
	if got, e := check.Cols(c, s); e != want || !slices.Equal(got, told) {
		t.Fatalf("Cols(%+v) = %+v, %d, not %+v, %d", s, got, e, told, want)
	}
}

// P13.3 is of what does not create: that, as schema.Create has it, hangs on which tables there are already.
func TestP13_3AnotherTable(t *testing.T) {
	_, m := full(t)
	all := slices.Concat(changes(t), selects(t), others())
	for i, s := range all {
		if i%3 != 0 {
			continue
		}
		c := schema.New()
		fits := check.Stmt(c, s) == api.OK
		for _, x := range m {
			if e := c.Create(x); e != api.OK {
				t.Fatal(e)
			}
			e := check.Stmt(c, s)
			if fits && e != api.OK {
				t.Fatalf("behind %s: Stmt(%+v) = %d", x.Name, s, e)
			}
			fits = e == api.OK
		}
	}
}
