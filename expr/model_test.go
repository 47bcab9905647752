package expr_test

import (
	"cmp"
	"reflect"
	"slices"
	"testing"

	"regesta/api"
	"regesta/expr"
)

// compareModel holds two values against one another field by field.
func compareModel(o api.CmpOp, a, b api.Value) bool {
	orders := map[api.CmpOp][]int{api.Eq: {0}, api.Ne: {-1, 1}, api.Lt: {-1}, api.Le: {-1, 0}, api.Gt: {1}, api.Ge: {0, 1}}
	order := cmp.Or(cmp.Compare(a.Num, b.Num), cmp.Compare(a.Str, b.Str))
	return a.Kind == b.Kind && slices.Contains(orders[o], order)
}

// within are the conditions of the kids that count: each is the list up to that part.
func within(l []api.Cond) [][]api.Cond {
	var out [][]api.Cond
	whole := len(l) - 1
	for _, k := range l[whole].Kids {
		if k >= 0 && k < whole {
			out = append(out, l[:k+1])
		}
	}
	return out
}

func holdsModel(l []api.Cond, cols []api.Col, vals []api.Value) bool {
	if len(l) == 0 {
		return true
	}
	count, all := 0, within(l)
	for _, x := range all {
		if holdsModel(x, cols, vals) {
			count++
		}
	}
	switch whole := l[len(l)-1]; whole.Kind {
	case api.Cmp:
		for i, c := range cols {
			if c.Name == whole.Col {
				return i < len(vals) && compareModel(whole.Op, vals[i], whole.Val)
			}
		}
	case api.And:
		return count == len(all)
	case api.Or:
		return count > 0
	case api.Not:
		return len(all) == 0 || !holdsModel(all[0], cols, vals)
	}
	return false
}

func depthModel(l []api.Cond) int {
	if len(l) == 0 {
		return 0
	}
	deepest := 0
	for _, x := range within(l) {
		deepest = max(deepest, depthModel(x))
	}
	return 1 + deepest
}

// equalsModel are all values that Equal may come by, from the left.
func equalsModel(l []api.Cond, col string) []api.Value {
	var out []api.Value
	if len(l) == 0 {
		return nil
	}
	whole := l[len(l)-1]
	if whole.Kind == api.Cmp && whole.Op == api.Eq && whole.Col == col {
		return []api.Value{whole.Val}
	}
	if whole.Kind == api.And {
		for _, x := range within(l) {
			out = append(out, equalsModel(x, col)...)
		}
	}
	return out
}

func columnsModel(l []api.Cond) []string {
	var out []string
	for _, c := range l {
		if c.Kind == api.Cmp && !slices.Contains(out, c.Col) {
			out = append(out, c.Col)
		}
	}
	return out
}

type row struct {
	cols []api.Col
	vals []api.Value
}

// rows have the columns in both orders, twice, not at all, and fewer values, or more.
func rows() []row {
	a, b, other := api.Col{Name: "a", Kind: api.Int}, api.Col{Name: "b", Kind: api.Int}, api.Col{Name: "c", Kind: api.Text}
	return []row{
		{}, {cols: []api.Col{a, b}}, {vals: []api.Value{num(1), num(2)}},
		{[]api.Col{a, b}, []api.Value{num(1), num(2)}}, {[]api.Col{a, b}, []api.Value{num(2), num(1)}}, {[]api.Col{b, a}, []api.Value{num(1), num(2)}},
		{[]api.Col{a, b}, []api.Value{num(1)}}, {[]api.Col{other, b, a}, []api.Value{num(1), num(2)}}, {[]api.Col{a}, []api.Value{num(1), num(2)}},
		{[]api.Col{a, a, b, b}, []api.Value{num(1), num(2), num(2), num(1)}}, {[]api.Col{a, b}, []api.Value{str("1"), {Kind: 7, Num: 2}}},
		{[]api.Col{{}, a, b}, []api.Value{{}, num(1), num(1)}},
	}
}

// agree asks all that can be asked of a condition, and holds it against the models; P14.3, P14.4 and P14.5 too.
func agree(t *testing.T, l []api.Cond) {
	t.Helper()
	if got, want := expr.Depth(l), depthModel(l); got != want {
		t.Fatalf("Depth(%+v) = %d, not %d", l, got, want)
	}
	names := expr.Columns(l)
	if want := columnsModel(l); !slices.Equal(names, want) {
		t.Fatalf("Columns(%+v) = %q, not %q", l, names, want)
	}
	for _, r := range rows() {
		want := holdsModel(l, r.cols, r.vals)
		if got := expr.Holds(l, r.cols, r.vals); got != want {
			t.Fatalf("Holds(%+v, %+v, %+v) = %v", l, r.cols, r.vals, got)
		}
		if expr.Holds(expr.Negated(l), r.cols, r.vals) == want || expr.Holds(expr.Negated(expr.Negated(l)), r.cols, r.vals) != want {
			t.Fatalf("Negated of %+v, of %+v, %+v", l, r.cols, r.vals)
		}
		cols, vals := onlyNamed(r, names)
		if expr.Holds(l, cols, vals) != want {
			t.Fatalf("Holds(%+v, %+v, %+v) hangs on columns that are not named", l, r.cols, r.vals)
		}
	}
	for _, col := range []string{"a", "b", "c", ""} {
		v, ok := expr.Equal(l, col)
		all := equalsModel(l, col)
		if ok != (len(all) > 0) || ok && v != all[0] || !ok && v != (api.Value{}) {
			t.Fatalf("Equal(%+v, %q) = %+v, %v, of %+v", l, col, v, ok, all)
		}
		for _, r := range rows() {
			at := slices.IndexFunc(r.cols, func(c api.Col) bool { return c.Name == col })
			if ok && expr.Holds(l, r.cols, r.vals) && (at < 0 || at >= len(r.vals) || r.vals[at] != v) {
				t.Fatalf("%+v holds of %+v, though Equal(%q) = %+v", l, r, col, v)
			}
		}
	}
}

// onlyNamed leaves out the columns, with their values, that are not among names.
func onlyNamed(r row, names []string) ([]api.Col, []api.Value) {
	var cols []api.Col
	var vals []api.Value
	for i, c := range r.cols {
		if !slices.Contains(names, c.Name) {
			continue
		}
		cols = append(cols, c)
		if i < len(r.vals) {
			vals = append(vals, r.vals[i])
		}
	}
	return cols, vals
}

// tryLists tries all lists of as many more parts, whatever they point at.
func tryLists(t *testing.T, front, parts []api.Cond, more int) int {
	t.Helper()
	agree(t, front)
	tried := 1
	if more > 0 {
		for _, p := range parts {
			tried += tryLists(t, append(slices.Clip(front), p), parts, more-1)
		}
	}
	return tried
}

func TestP14_1AllShortLists(t *testing.T) {
	one, two := compare("a", api.Eq, num(1)), compare("b", api.Lt, num(2))
	few := []api.Cond{one, compare("a", api.Eq, num(2)), compare("b", api.Eq, num(2)), joint(api.Not, 0), joint(api.And, 0, 1), joint(api.Or, 0, 1), joint(api.And, 2, 1), joint(api.And, 1, 3)}
	many := []api.Cond{
		one, two, compare("", api.Eq, api.Value{}), compare("c", api.NoCmp, num(1)), {}, {Kind: 9, Kids: []int{0}, Col: "a", Op: api.Eq, Val: num(1)}, {Kind: api.NoCond, Kids: []int{0, 1}},
		{Kind: api.Cmp, Col: "a", Op: api.Eq, Val: num(1), Kids: []int{0, 1}}, {Kind: api.And, Col: "a", Op: api.Eq, Val: num(1), Kids: []int{1}}, {Kind: api.Or, Col: "a", Op: api.Eq, Val: num(1)},
		joint(api.Not), joint(api.Not, 0), joint(api.Not, 1, 0), joint(api.Not, 3, -1, 0), joint(api.And), joint(api.And, 0), joint(api.And, 0, 1), joint(api.And, 2, 0, 1), joint(api.Or), joint(api.Or, 1), joint(api.Or, 1, 0), joint(api.Or, 0, 1, 2),
	}
	if n := tryLists(t, nil, many, 3) + tryLists(t, nil, few, 5); n < 40000 {
		t.Errorf("only %d were tried", n)
	}
}

func TestP14_1Compares(t *testing.T) {
	values := []api.Value{
		{}, {Num: 1}, {Str: "a"}, num(-1 << 63), num(-1), num(0), num(1), num(1<<63 - 1), {Kind: api.Int, Num: 1, Str: "a"},
		str(""), str("a"), str("b"), str("ab"), str("ä"), str("\xff"), str("1"), {Kind: api.Text, Num: 1, Str: "a"}, {Kind: 3}, {Kind: 255, Num: 5, Str: "x"},
	}
	for o := range 256 {
		for _, a := range values {
			for _, b := range values {
				if got := expr.Compares(api.CmpOp(o), a, b); got != compareModel(api.CmpOp(o), a, b) {
					t.Errorf("Compares(%d, %+v, %+v) = %v", o, a, b, got)
				}
			}
		}
	}
}

// Negated is l, as it is, and one more.
func TestP14_2Negated(t *testing.T) {
	l := parsed(t, "(a = 1 and not b < 'x')")
	for _, l := range [][]api.Cond{l, {{}}, {joint(api.Not, 5, -1)}, {joint(9, 0), compare("", api.NoCmp, num(1))}} {
		got := expr.Negated(l)
		if want := append(slices.Clip(l), joint(api.Not, len(l)-1)); !reflect.DeepEqual(got, want) {
			t.Errorf("Negated(%+v) = %+v", l, got)
		}
		again := expr.Negated(got)
		if want := append(slices.Clip(l), joint(api.Not, len(l)-1), joint(api.Not, len(l))); !reflect.DeepEqual(again, want) {
			t.Errorf("Negated of Negated(%+v) = %+v", l, again)
		}
	}
	for _, none := range [][]api.Cond{nil, {}, l[:0]} {
		got := expr.Negated(none)
		if want := []api.Cond{{Kind: api.Cmp}}; !reflect.DeepEqual(got, want) {
			t.Errorf("Negated of none = %+v", got)
		}
		again := expr.Negated(got)
		if want := []api.Cond{{Kind: api.Cmp}, joint(api.Not, 0)}; !reflect.DeepEqual(again, want) {
			t.Errorf("Negated of Negated of none = %+v", again)
		}
		if nameless := []api.Col{{}}; expr.Holds(got, nameless, []api.Value{{}}) || !expr.Holds(again, nameless, []api.Value{{}}) || expr.Holds(got, nil, nil) || !expr.Holds(again, nil, nil) {
			t.Error("Negated of none does not hold of none")
		}
	}
}
