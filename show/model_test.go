package show_test

import (
	"reflect"
	"slices"
	"strings"
	"testing"
	"unicode/utf8"

	"regesta/api"
	"regesta/parse"
	"regesta/show"
)

const keyWords = " create table int text references insert into values from to update set where delete select in join on as of between and order begin commit rollback prune or not "

func isName(s string) bool {
	if s == "" || len(s) > 8 || strings.Contains(keyWords, " "+s+" ") || strings.Contains("0123456789_", s[:1]) {
		return false
	}
	return strings.Trim(s, "abcdefghijklmnopqrstuvwxyz0123456789_") == ""
}

func isNear[T int | int64](n T) bool { return -1<<40 <= n && n <= 1<<40 }

func isLiteral(v api.Value) bool {
	if v.Kind == api.Int {
		return v.Str == "" && isNear(v.Num)
	}
	wrong := strings.ContainsFunc(v.Str, func(r rune) bool { return r < 32 || r == 127 })
	return v.Kind == api.Text && v.Num == 0 && !wrong && utf8.ValidString(v.Str) && utf8.RuneCountInString(v.Str) <= 8
}

// isCondition puts parts on a pile, from which those that have them within take them.
func isCondition(l []api.Cond) bool {
	type heap struct{ place, deep int }
	var pile []heap
	for i, c := range l {
		count := map[api.CondKind]int{api.Cmp: 0, api.Not: 1, api.And: 2, api.Or: 2}[c.Kind]
		bare := c.Col == "" && c.Op == api.NoCmp && c.Val == api.Value{}
		compares := isName(c.Col) && c.Op >= api.Eq && c.Op <= api.Ge && isLiteral(c.Val)
		if c.Kind < api.Cmp || c.Kind > api.Not || len(c.Kids) != count || count > len(pile) || count == 0 && !compares || count > 0 && !bare {
			return false
		}
		deep := 1
		for k, x := range pile[len(pile)-count:] {
			if c.Kids[k] != x.place {
				return false
			}
			deep = max(deep, x.deep+1)
		}
		pile = append(pile[:len(pile)-count], heap{i, deep})
	}
	return len(pile) == 1 && pile[0].deep <= 6
}

func isTable(t api.Table) bool {
	for _, c := range t.Cols {
		if !isName(c.Name) || c.Kind != api.Int && c.Kind != api.Text {
			return false
		}
	}
	if !isName(t.Name) || len(t.Cols) < 1 || len(t.Cols) > 4 {
		return false
	}
	if t.Parent == "" {
		return t.Ref == 0
	}
	if !isName(t.Parent) || t.Ref < 1 || t.Ref >= len(t.Cols) {
		return false
	}
	first := slices.IndexFunc(t.Cols[1:], func(c api.Col) bool { return c.Name == t.Cols[t.Ref].Name })
	return first == t.Ref-1
}

// canBe is whether some text says the statement, by its fields alone; what it has of its own is taken out, and nothing may be left.
func canBe(s api.Stmt) bool {
	right := false
	span := isNear(s.Span.From) && isNear(s.Span.To) && (s.HasSpan || s.Span == api.Span{})
	where := len(s.Where) == 0 || isCondition(s.Where)
	switch s.Kind {
	case api.Create:
		right = isTable(s.Table)
		s.Table = api.Table{}
	case api.Insert:
		right = isName(s.Name) && s.HasSpan && span && len(s.Vals) > 0 && !slices.ContainsFunc(s.Vals, func(v api.Value) bool { return !isLiteral(v) })
		s.Name, s.Vals, s.HasSpan, s.Span = "", nil, false, api.Span{}
	case api.Update:
		right = isName(s.Name) && span && where && len(s.Sets) > 0 && !slices.ContainsFunc(s.Sets, func(x api.Set) bool { return !isName(x.Col) || !isLiteral(x.Val) })
		s.Name, s.Sets, s.HasSpan, s.Span, s.Where = "", nil, false, api.Span{}, nil
	case api.Delete:
		right = isName(s.Name) && span && where
		s.Name, s.HasSpan, s.Span, s.Where = "", false, api.Span{}, nil
	case api.Select:
		right = isName(s.Name) && where && (s.Order == "" || isName(s.Order)) && !slices.ContainsFunc(s.Cols, func(c string) bool { return !isName(c) }) &&
			(s.Join == "" && s.On == [2]string{} || isName(s.Join) && isName(s.On[0]) && isName(s.On[1])) &&
			s.Time <= api.Between && isNear(s.A) && isNear(s.B) && (s.Time != api.Now || s.A == 0) && (s.Time > api.AsOf || s.B == 0)
		s.Name, s.Where, s.Order, s.Cols, s.Join, s.On, s.Time, s.A, s.B = "", nil, "", nil, "", [2]string{}, 0, 0, 0
	case api.Begin, api.Commit, api.Rollback:
		right = true
	case api.Prune:
		right = isNear(s.A)
		s.A = 0
	}
	empty := len(s.Table.Cols) == 0 && len(s.Vals) == 0 && len(s.Sets) == 0 && len(s.Where) == 0 && len(s.Cols) == 0
	s.Table.Cols, s.Vals, s.Sets, s.Where, s.Cols = nil, nil, nil, nil, nil
	return right && empty && reflect.DeepEqual(s, api.Stmt{Kind: s.Kind})
}

// variants are values that differ from one in one field, or in one member of a list.
func variants(v reflect.Value) []reflect.Value {
	var all []reflect.Value
	with := func(change func(x reflect.Value)) {
		x := reflect.New(v.Type()).Elem()
		x.Set(v)
		change(x)
		all = append(all, x)
	}
	switch v.Kind() {
	case reflect.Bool:
		with(func(x reflect.Value) { x.SetBool(!v.Bool()) })
	case reflect.Uint8:
		for n := range uint64(12) {
			if n != v.Uint() {
				with(func(x reflect.Value) { x.SetUint(n) })
			}
		}
	case reflect.Int, reflect.Int64:
		for _, n := range []int64{v.Int() + 1, v.Int() - 1, 1<<40 + 1, -1<<40 - 1, -1 << 63} {
			with(func(x reflect.Value) { x.SetInt(n) })
		}
	case reflect.String:
		for _, text := range []string{"", "a", "b", "by", "to", "Z", "a b", "*", "\xff", "abcdefgh", "abcdefghi"} {
			if text != v.String() {
				with(func(x reflect.Value) { x.SetString(text) })
			}
		}
	case reflect.Struct:
		for i := range v.NumField() {
			for _, w := range variants(v.Field(i)) {
				with(func(x reflect.Value) { x.Field(i).Set(w) })
			}
		}
	case reflect.Array:
		for i := range v.Len() {
			for _, w := range variants(v.Index(i)) {
				with(func(x reflect.Value) { x.Index(i).Set(w) })
			}
		}
	case reflect.Slice:
		all = append(all, lists(v)...)
	}
	return all
}

// lists have one member changed, taken out, or told twice, or one more, or two in each other's place.
func lists(v reflect.Value) []reflect.Value {
	n := v.Len()
	pieces := func(parts ...reflect.Value) reflect.Value {
		x := reflect.MakeSlice(v.Type(), 0, n+1)
		for _, p := range parts {
			x = reflect.AppendSlice(x, p)
		}
		return x
	}
	all := []reflect.Value{reflect.Append(pieces(v), reflect.Zero(v.Type().Elem()))}
	for i := range n {
		all = append(all, pieces(v.Slice(0, i), v.Slice(i+1, n)), pieces(v.Slice(0, i+1), v.Slice(i, n)))
		for _, w := range variants(v.Index(i)) {
			x := pieces(v)
			x.Index(i).Set(w)
			all = append(all, x)
		}
		if i > 0 && !reflect.DeepEqual(v.Index(i).Interface(), v.Index(i-1).Interface()) {
			x := pieces(v)
			x.Index(i).Set(v.Index(i - 1))
			x.Index(i - 1).Set(v.Index(i))
			all = append(all, x)
		}
	}
	return all
}

func stmtVariants(s api.Stmt) []api.Stmt {
	var all []api.Stmt
	for _, v := range variants(reflect.ValueOf(s)) {
		all = append(all, v.Interface().(api.Stmt))
	}
	return all
}

// whole has a value in each field, though no text says it.
func whole() api.Stmt {
	return api.Stmt{
		Kind: api.Update, Table: api.Table{Name: "t", Cols: []api.Col{{Name: "a", Kind: api.Int}, {Name: "b", Kind: api.Text}}, Parent: "p", Ref: 1},
		Name: "t", Vals: []api.Value{num(1), str("x")}, Sets: []api.Set{{Col: "a", Val: num(1)}, {Col: "b", Val: str("x")}},
		Where:   []api.Cond{compare("a", api.Eq, num(1)), compare("b", api.Lt, str("x")), joint(api.And, 0, 1), {Kind: 9, Col: "c", Op: 8, Val: num(3), Kids: []int{5}}},
		HasSpan: true, Span: api.Span{From: 1, To: 2}, Cols: []string{"a", "b"}, Join: "u", On: [2]string{"a", "b"}, Order: "o", Time: api.FromTo, A: 3, B: 4,
	}
}

func TestP12_1Same(t *testing.T) {
	same := func(a, b api.Stmt, want bool) {
		t.Helper()
		if show.Same(a, b) != want || show.Same(b, a) != want {
			t.Errorf("Same(%+v, %+v) is not %v", a, b, want)
		}
	}
	same(whole(), whole(), true)
	same(api.Stmt{}, api.Stmt{}, true)
	same(whole(), api.Stmt{}, false)
	all := stmtVariants(whole())
	if len(all) < 200 {
		t.Errorf("there are only %d", len(all))
	}
	for _, other := range all {
		same(whole(), other, false)
		same(other, other, true)
	}
	for _, other := range stmtVariants(api.Stmt{}) {
		same(api.Stmt{}, other, false)
	}
	// A list without members is one, whether it is nil or not.
	same(api.Stmt{}, api.Stmt{Vals: []api.Value{}, Sets: []api.Set{}, Where: []api.Cond{}, Cols: []string{}, Table: api.Table{Cols: []api.Col{}}}, true)
	same(api.Stmt{Where: []api.Cond{{}}}, api.Stmt{Where: []api.Cond{{Kids: []int{}}}}, true)
	for i, a := range texts() {
		for j, b := range texts() {
			if i%17 == 0 && j%3 == 0 {
				same(stmt(t, a), stmt(t, b), i == j)
			}
		}
	}
}

func agree(t *testing.T, s api.Stmt) {
	t.Helper()
	text, e := show.Print(s)
	if !canBe(s) {
		if text != "" || e != api.ErrForm || show.Sound(s) {
			t.Fatalf("Print(%+v) = %q, %d, though no text says it", s, text, e)
		}
		return
	}
	if e != api.OK || !show.Sound(s) {
		t.Fatalf("Print(%+v) = %q, %d, though a text says it", s, text, e)
	}
	said, _, e := parse.Stmt(text)
	if again, _ := show.Print(said); e != api.OK || !show.Same(said, s) || again != text {
		t.Fatalf("Print(%+v) = %q, which says %+v, %d, and is printed %q", s, text, said, e, again)
	}
}

// Each statement with one field, or one member of a list, changed: P12.2 and P12.3 hold of those that can be, and no others can.
func TestP12_1SoundOfChanged(t *testing.T) {
	agree(t, whole())
	agree(t, api.Stmt{})
	for _, s := range stmtVariants(whole()) {
		agree(t, s)
	}
	can, cannot := 0, 0
	for i, text := range texts() {
		s := stmt(t, text)
		agree(t, s)
		if i > 12 && i%5 != 0 {
			continue
		}
		for _, other := range stmtVariants(s) {
			agree(t, other)
			if canBe(other) {
				can++
			} else {
				cannot++
			}
		}
	}
	if can < 1000 || cannot < 1000 {
		t.Errorf("%d can be, %d cannot", can, cannot)
	}
}

// All lists of up to three parts, and of four of fewer kinds, whatever they point to.
func TestP12_1CondOfLists(t *testing.T) {
	one, two := compare("a", api.Eq, num(1)), compare("b", api.Ne, str("x"))
	few := []api.Cond{one, two, joint(api.Not, 0), joint(api.Not, 1), joint(api.Not, 2), joint(api.And, 0, 1), joint(api.Or, 0, 2), joint(api.And, 1, 2), joint(api.Or, 2, 2)}
	many := append(slices.Clip(few), api.Cond{}, joint(api.Not), joint(api.Not, -1), joint(api.Not, 3), joint(api.Not, 0, 1), joint(api.Or), joint(api.And, 0), joint(api.And, 0, 1, 2), joint(api.Or, 1, 0), joint(api.And, 0, 0), joint(api.Or, 0, -1), joint(api.And, 3, 0), joint(api.Cmp, 0), joint(9, 0, 1))
	found := tryLists(t, nil, many, 3) + tryLists(t, nil, few, 5)
	if found < 30 {
		t.Errorf("only %d conditions are found", found)
	}
}

func tryLists(t *testing.T, front, parts []api.Cond, more int) int {
	t.Helper()
	found := 0
	text, e := show.Cond(front)
	if !isCondition(front) {
		if text != "" || e != api.ErrForm {
			t.Fatalf("Cond(%+v) = %q, %d, though no text says it", front, text, e)
		}
	} else {
		found++
		if said, _, wrong := parse.Where(text); e != api.OK || wrong != api.OK || !reflect.DeepEqual(said, front) {
			t.Fatalf("Cond(%+v) = %q, %d, which says %+v", front, text, e, said)
		}
	}
	if more > 0 {
		for _, p := range parts {
			found += tryLists(t, append(slices.Clip(front), p), parts, more-1)
		}
	}
	return found
}
