package expr_test

import (
	"math"
	"reflect"
	"slices"
	"strconv"
	"testing"

	"regesta/api"
	"regesta/expr"
	"regesta/parse"
)

// The calls are those of the chapter.
var (
	_ func([]api.Cond, []api.Col, []api.Value) bool = expr.Holds
	_ func(api.CmpOp, api.Value, api.Value) bool    = expr.Compares
	_ func([]api.Cond, string) (api.Value, bool)    = expr.Equal
	_ func([]api.Cond) []string                     = expr.Columns
	_ func([]api.Cond) int                          = expr.Depth
	_ func([]api.Cond) []api.Cond                   = expr.Negated
)

func num(n int64) api.Value  { return api.Value{Kind: api.Int, Num: n} }
func str(s string) api.Value { return api.Value{Kind: api.Text, Str: s} }

func compare(col string, op api.CmpOp, v api.Value) api.Cond {
	return api.Cond{Kind: api.Cmp, Col: col, Op: op, Val: v}
}

func joint(k api.CondKind, kids ...int) api.Cond { return api.Cond{Kind: k, Kids: kids} }

func parsed(t *testing.T, text string) []api.Cond {
	t.Helper()
	l, at, e := parse.Where(text)
	if e != api.OK {
		t.Fatalf("Where(%q): %d, %d", text, at, e)
	}
	return l
}

var columns = []api.Col{{Name: "a", Kind: api.Int}, {Name: "b", Kind: api.Text}, {Name: "c", Kind: api.Int}}

func wantHolds(t *testing.T, l []api.Cond, cols []api.Col, vals []api.Value, want bool) {
	t.Helper()
	if got := expr.Holds(l, cols, vals); got != want {
		t.Errorf("Holds(%+v, %+v, %+v) = %v", l, cols, vals, got)
	}
	if got := expr.Holds(expr.Negated(l), cols, vals); got == want {
		t.Errorf("Holds of Negated(%+v), %+v, %+v = %v", l, cols, vals, got)
	}
}

func TestP14_1HoldsOfTexts(t *testing.T) {
	vals := []api.Value{num(1), str("m"), num(-5)}
	for text, want := range map[string]bool{
		"a = 1": true, "a = 2": false, "a <> 1": false, "a <> 2": true, "a < 1": false, "a < 2": true, "a <= 1": true, "a <= 0": false, "a > 1": false, "a > 0": true, "a >= 1": true, "a >= 2": false,
		"b = 'm'": true, "b < 'mm'": true, "b > 'M'": true, "b >= 'n'": false, "b = 'M'": false, "b <> ''": true,
		"c < 0": true, "c > -6": true, "a = 'x'": false, "a <> 'x'": false, "b <> 1": false, "d = 1": false, "d <> 1": false, "not d = 1": true, "not a = 'x'": true,
		"(a = 1 and b = 'm')": true, "(a = 1 and b = 'n')": false, "(a = 2 and b = 'm')": false, "(a = 2 or b = 'm')": true, "(a = 1 or b = 'n')": true, "(a = 2 or b = 'n')": false,
		"not (a = 1 and c = -5)": false, "not not a = 1": true, "((a = 2 or b = 'm') and not (c = 0 or c = 1))": true, "not (not a = 1 or not b = 'm')": true, "not not not not not a = 1": false,
	} {
		wantHolds(t, parsed(t, text), columns, vals, want)
	}
}

func TestP14_1HoldsAtTheEdges(t *testing.T) {
	yes, no := compare("a", api.Eq, num(1)), compare("a", api.Eq, num(2))
	vals := []api.Value{num(1), str("m"), num(-5)}
	for _, x := range []struct {
		l    []api.Cond
		want bool
	}{
		{nil, true}, {[]api.Cond{}, true}, {[]api.Cond{{}}, false}, {[]api.Cond{yes, {Kind: 5, Kids: []int{0}}}, false}, {[]api.Cond{yes, {Kind: api.NoCond, Kids: []int{0}}}, false},
		{[]api.Cond{yes}, true}, {[]api.Cond{no, yes}, true}, {[]api.Cond{yes, no}, false},
		{[]api.Cond{joint(api.And)}, true}, {[]api.Cond{joint(api.Or)}, false}, {[]api.Cond{joint(api.Not)}, true},
		{[]api.Cond{yes, joint(api.And, 0)}, true}, {[]api.Cond{no, joint(api.And, 0)}, false}, {[]api.Cond{yes, joint(api.Or, 0)}, true}, {[]api.Cond{no, joint(api.Or, 0)}, false},
		{[]api.Cond{yes, no, joint(api.And, 0, 0, 0)}, true}, {[]api.Cond{yes, no, joint(api.And, 0, 0, 1)}, false}, {[]api.Cond{yes, no, joint(api.And, 1, 0, 0)}, false},
		{[]api.Cond{yes, no, joint(api.Or, 1, 1, 1)}, false}, {[]api.Cond{yes, no, joint(api.Or, 1, 1, 0)}, true}, {[]api.Cond{yes, no, joint(api.Or, 0, 1, 1)}, true},
		{[]api.Cond{yes, no, joint(api.Not, 0, 1)}, false}, {[]api.Cond{yes, no, joint(api.Not, 1, 0)}, true},
		// Places that are no part ahead are passed over: at itself, behind it, nowhere.
		{[]api.Cond{yes, joint(api.And, 1, 0)}, true}, {[]api.Cond{no, joint(api.And, 1)}, true}, {[]api.Cond{joint(api.And, 1), joint(api.Or, 0)}, true},
		{[]api.Cond{yes, joint(api.Or, 1, 2, -1, math.MaxInt, math.MinInt)}, false}, {[]api.Cond{yes, joint(api.And, -1, 2, 1, math.MaxInt, math.MinInt)}, true}, {[]api.Cond{no, joint(api.And, -1, 0, 7)}, false},
		{[]api.Cond{yes, joint(api.Not, 1, 0)}, false}, {[]api.Cond{no, joint(api.Not, -1, 9, 0)}, true}, {[]api.Cond{yes, joint(api.Not, 1)}, true}, {[]api.Cond{yes, joint(api.Not, -1)}, true},
		{[]api.Cond{joint(api.Or, 1), yes, joint(api.Or, 0)}, false}, {[]api.Cond{joint(api.Not, 1), yes, joint(api.And, 0, 1)}, true},
		// A comparison is one, whatever its kids are.
		{[]api.Cond{no, {Kind: api.Cmp, Col: "a", Op: api.Eq, Val: num(1), Kids: []int{0}}}, true},
		{[]api.Cond{compare("a", api.NoCmp, num(1))}, false}, {[]api.Cond{compare("a", 7, num(1))}, false}, {[]api.Cond{compare("", api.Eq, num(1))}, false},
	} {
		wantHolds(t, x.l, columns, vals, x.want)
	}
}

func TestP14_1HoldsOfFewValuesAndTwins(t *testing.T) {
	for text, needs := range map[string]int{"a = 1": 1, "b = 'm'": 2, "c = -5": 3, "(a = 1 and c = -5)": 3, "(a = 1 or c = -5)": 1} {
		for n := range 4 {
			wantHolds(t, parsed(t, text), columns, []api.Value{num(1), str("m"), num(-5)}[:n], n >= needs)
		}
		wantHolds(t, parsed(t, text), columns, []api.Value{num(1), str("m"), num(-5), num(9)}, true)
		wantHolds(t, parsed(t, text), nil, []api.Value{num(1), str("m"), num(-5)}, false)
	}
	twins := []api.Col{{Name: "x"}, {Name: "a", Kind: api.Int}, {Name: "a", Kind: api.Int}}
	wantHolds(t, parsed(t, "a = 1"), twins, []api.Value{num(0), num(1), num(2)}, true)
	wantHolds(t, parsed(t, "a = 2"), twins, []api.Value{num(0), num(1), num(2)}, false)
	wantHolds(t, parsed(t, "a = 2"), twins, []api.Value{num(0)}, false)
	// What kind the column is said to be is of no matter: the value tells it.
	wantHolds(t, parsed(t, "x = 'y'"), []api.Col{{Name: "x", Kind: api.Int}}, []api.Value{str("y")}, true)
}

func TestP14_2Equal(t *testing.T) {
	for _, x := range []struct {
		text, col string
		want      api.Value
		ok        bool
	}{
		{"a = 1", "a", num(1), true}, {"a = 1", "b", api.Value{}, false}, {"a = 1", "", api.Value{}, false}, {"a = ''", "a", str(""), true}, {"a = 0", "a", num(0), true},
		{"a <> 1", "a", api.Value{}, false}, {"a <= 1", "a", api.Value{}, false}, {"a >= 1", "a", api.Value{}, false}, {"a < 1", "a", api.Value{}, false}, {"a > 1", "a", api.Value{}, false},
		{"(a = 1 and b < 3)", "a", num(1), true}, {"(b < 3 and a = 1)", "a", num(1), true}, {"(a = 1 and a = 2)", "a", num(1), true}, {"(a < 1 and a = 2)", "a", num(2), true},
		{"((b = 2 and a = 7) and a = 3)", "a", num(7), true}, {"(a = 3 and (a = 7 and b = 2))", "a", num(3), true}, {"((b = 2 and c = 7) and (c = 1 and a = 3))", "a", num(3), true},
		{"(a = 1 or b = 2)", "a", api.Value{}, false}, {"(a = 1 or a = 1)", "a", api.Value{}, false}, {"not a = 1", "a", api.Value{}, false}, {"not not a = 1", "a", api.Value{}, false}, {"not a <> 1", "a", api.Value{}, false},
		{"((a = 1 or b = 2) and a = 5)", "a", num(5), true}, {"(not a = 1 and a = 5)", "a", num(5), true}, {"not (a = 1 and b = 2)", "a", api.Value{}, false}, {"(b = 1 and not (a = 1 and a = 2))", "a", api.Value{}, false},
	} {
		if got, ok := expr.Equal(parsed(t, x.text), x.col); got != x.want || ok != x.ok {
			t.Errorf("Equal(%q, %q) = %+v, %v", x.text, x.col, got, ok)
		}
	}
	one := compare("a", api.Eq, num(1))
	for _, wrong := range [][]api.Cond{nil, {}, {{}}, {one, {}}, {one, joint(api.And)}, {one, joint(api.And, 1)}, {one, joint(api.And, 2, -1, math.MaxInt, math.MinInt)}, {joint(api.And, 1), one, joint(api.And, 0)}, {one, joint(9, 0)}, {one, compare("b", api.Eq, num(1))}, {{Kind: api.And, Col: "a", Op: api.Eq, Val: num(1)}}} {
		if got, ok := expr.Equal(wrong, "a"); ok || got != (api.Value{}) {
			t.Errorf("Equal(%+v) = %+v, %v", wrong, got, ok)
		}
	}
	if got, ok := expr.Equal([]api.Cond{one, joint(api.And, 9, 1, 0)}, "a"); !ok || got != num(1) {
		t.Errorf("Equal behind places that are passed over: %+v, %v", got, ok)
	}
	odd := api.Value{Kind: 9, Num: 3, Str: "\xff"}
	if got, ok := expr.Equal([]api.Cond{compare("no name", api.Eq, odd)}, "no name"); !ok || got != odd {
		t.Errorf("Equal of a value that can't be: %+v, %v", got, ok)
	}
}

func TestP14_2Columns(t *testing.T) {
	for text, want := range map[string][]string{
		"a = 1": {"a"}, "(b = 1 and a = 2)": {"b", "a"}, "(b = 1 and (a = 2 or not b < 3))": {"b", "a"}, "((c = 1 or a = 1) and (a = 2 or (b = 1 and c = 0)))": {"c", "a", "b"}, "not not a = 1": {"a"},
	} {
		if got := expr.Columns(parsed(t, text)); !slices.Equal(got, want) {
			t.Errorf("Columns(%q) = %q", text, got)
		}
	}
	// Places count, not ways from the whole; and only comparisons name columns.
	l := []api.Cond{compare("z", api.NoCmp, num(1)), {Kind: api.And, Col: "q"}, {Kind: api.NoCond, Col: "r"}, compare("y", api.Eq, num(1)), compare("z", api.Eq, num(1)), {Kind: 9, Col: "s"}}
	if got := expr.Columns(l); !slices.Equal(got, []string{"z", "y"}) {
		t.Errorf("Columns(%+v) = %q", l, got)
	}
	for _, none := range [][]api.Cond{nil, {}, {{}}, {joint(api.And, 0)}} {
		if got := expr.Columns(none); len(got) != 0 {
			t.Errorf("Columns(%+v) = %q", none, got)
		}
	}
}

func TestP14_2Depth(t *testing.T) {
	for text, want := range map[string]int{
		"a = 1": 1, "not a = 1": 2, "(a = 1 and b = 2)": 2, "(not a = 1 or b = 2)": 3, "(b = 2 or not a = 1)": 3, "((a = 1 and b = 2) or (c = 3 and not d = 4))": 4, "not not not not not a = 1": 6,
	} {
		if got := expr.Depth(parsed(t, text)); got != want {
			t.Errorf("Depth(%q) = %d", text, got)
		}
	}
	one := compare("a", api.Eq, num(1))
	for _, x := range []struct {
		l    []api.Cond
		want int
	}{
		{nil, 0}, {[]api.Cond{}, 0}, {[]api.Cond{{}}, 1}, {[]api.Cond{joint(api.And)}, 1}, {[]api.Cond{joint(api.Not, 0)}, 1}, {[]api.Cond{joint(api.Or, 1, -1, math.MaxInt, math.MinInt)}, 1},
		{[]api.Cond{one, one, one}, 1}, {[]api.Cond{one, joint(api.Not, 0), one}, 1}, {[]api.Cond{one, joint(api.Not, 1)}, 1}, {[]api.Cond{joint(api.Not, 1), one}, 1}, {[]api.Cond{joint(api.Not, 2), one, joint(api.Not, 0)}, 2},
		{[]api.Cond{one, joint(api.Not, 0), joint(api.And, 0, 1)}, 3}, {[]api.Cond{one, joint(api.Not, 0), joint(api.And, 1, 0)}, 3}, {[]api.Cond{one, joint(api.Not, 0), joint(api.And, 0, 2, 7)}, 2},
		{[]api.Cond{one, joint(api.Not, 0), joint(api.Not, 0, 1)}, 3}, {[]api.Cond{one, joint(9, 0)}, 2}, {[]api.Cond{one, joint(api.Cmp, 0)}, 2},
	} {
		if got := expr.Depth(x.l); got != x.want {
			t.Errorf("Depth(%+v) = %d, not %d", x.l, got, x.want)
		}
	}
}

// Each part stands twice in the next one, so that there are more ways to the first one than can be gone; and a chain is as deep as may be.
func TestP1EndsSoon(t *testing.T) {
	cols, vals := []api.Col{{Name: "a"}}, []api.Value{num(1)}
	twice := []api.Cond{compare("a", api.Eq, num(1))}
	for i := range 1000 {
		twice = append(twice, joint(api.And, i, i))
	}
	wantHolds(t, twice, cols, vals, true)
	wantHolds(t, twice, cols, nil, false)
	if v, ok := expr.Equal(twice, "a"); !ok || v != num(1) || expr.Depth(twice) != 1001 {
		t.Errorf("Equal = %+v, %v; Depth = %d", v, ok, expr.Depth(twice))
	}
	if _, ok := expr.Equal(twice, "b"); ok {
		t.Error("Equal of a column that is not named")
	}
	chain := []api.Cond{compare("a", api.Eq, num(1))}
	for i := range 1<<16 - 1 {
		chain = append(chain, joint(api.Not, i))
	}
	wantHolds(t, chain, cols, vals, false)
	if got := expr.Depth(chain); got != 1<<16 {
		t.Errorf("Depth of a chain = %d", got)
	}
	var names []api.Cond
	for i := range 1 << 17 {
		names = append(names, compare(strconv.Itoa(i), api.Eq, num(1)))
	}
	if got := expr.Columns(append(names, names...)); len(got) != 1<<17 || got[1<<16] != "65536" {
		t.Errorf("%d Columns", len(got))
	}
}

func TestP3HandedInStays(t *testing.T) {
	spareKid := []int{0, 1, 77, 78}
	spare := api.Cond{Kind: 77, Kids: []int{7}}
	make3 := func() []api.Cond {
		return []api.Cond{compare("b", api.Eq, num(1)), compare("a", api.Eq, num(2)), joint(api.And, spareKid[:2]...), spare, spare}
	}
	l, before := make3(), make3()
	cols := []api.Col{{Name: "a"}, {Name: "b"}, {Name: "spare"}}
	vals := []api.Value{num(2), num(1), num(77)}
	wantHolds(t, l[:3], cols[:2], vals[:2], true)
	expr.Equal(l[:3], "a")
	expr.Depth(l[:3])
	names := expr.Columns(l[:3])
	names[0] = "changed"
	negated := expr.Negated(l[:3])
	for i := range negated {
		negated[i].Col, negated[i].Kind = "changed", 99
		for j := range negated[i].Kids {
			negated[i].Kids[j] = 99
		}
		negated[i].Kids = append(negated[i].Kids, 98)
	}
	if !reflect.DeepEqual(l, before) || !slices.Equal(spareKid, []int{0, 1, 77, 78}) || cols[2].Name != "spare" || vals[2] != num(77) {
		t.Errorf("what was handed in changed: %+v, %v", l, spareKid)
	}
	if again := expr.Columns(l[:3]); !slices.Equal(again, []string{"b", "a"}) {
		t.Errorf("Columns = %q", again)
	}
	// No two lists of an answer lie in one another, either.
	first := expr.Negated([]api.Cond{joint(api.And, spareKid[:1]...), joint(api.Or, spareKid[:1]...)})
	first[0].Kids[0] = 5
	if first[1].Kids[0] != 0 || spareKid[0] != 0 {
		t.Error("two lists of an answer share memory")
	}
}

func TestP14Example(t *testing.T) {
	l := parsed(t, "(a = 1 and b < 3)")
	wantHolds(t, l, []api.Col{{Name: "a", Kind: api.Int}, {Name: "b", Kind: api.Int}}, []api.Value{num(1), num(2)}, true)
	if v, ok := expr.Equal(l, "a"); !ok || v != num(1) {
		t.Errorf("Equal = %+v, %v", v, ok)
	}
}
