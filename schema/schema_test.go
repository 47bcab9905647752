package schema_test

import (
	"fmt"
	"math"
	"reflect"
	"slices"
	"strings"
	"testing"

	"regesta/api"
	"regesta/schema"
)

// The calls are those of the chapter.
var (
	_ func() *schema.Catalog                          = schema.New
	_ func(api.Table) bool                            = schema.Right
	_ func([]api.Col, string) int                     = schema.Column
	_ func(*schema.Catalog, api.Table) api.Errno      = (*schema.Catalog).Create
	_ func(*schema.Catalog, string) (api.Table, bool) = (*schema.Catalog).Get
	_ func(*schema.Catalog) []string                  = (*schema.Catalog).Names
	_ func(*schema.Catalog, string) []string          = (*schema.Catalog).Children
	_ func(*schema.Catalog) []api.Table               = (*schema.Catalog).Tables
	_ func(*schema.Catalog, *schema.Catalog) bool     = (*schema.Catalog).Same
	_ func(*schema.Catalog) *schema.Catalog           = (*schema.Catalog).Fork
)

const keyWords = "create table int text references insert into values from to update set where delete select in join on as of between and order begin commit rollback prune or not"

func nameModel(s string) bool {
	if s == "" || len(s) > api.MaxName || slices.Contains(strings.Fields(keyWords), s) {
		return false
	}
	return strings.Trim(s, "abcdefghijklmnopqrstuvwxyz0123456789_") == "" && !strings.ContainsAny(s[:1], "0123456789_")
}

// rightModel goes through what a table must have, as the chapter's words tell it.
func rightModel(t api.Table) bool {
	right := nameModel(t.Name) && len(t.Cols) != 0 && len(t.Cols) <= api.MaxCols
	for i, a := range t.Cols {
		right = right && nameModel(a.Name) && (a.Kind == api.Int || a.Kind == api.Text)
		for _, b := range t.Cols[i+1:] {
			right = right && a.Name != b.Name
		}
	}
	without := t.Parent == "" && t.Ref == 0
	with := nameModel(t.Parent) && t.Ref > 0 && t.Ref <= len(t.Cols)-1
	return right && (without || with)
}

// cols makes columns of pairs like "k int".
func cols(said ...string) []api.Col {
	var out []api.Col
	for _, s := range said {
		name, kind, _ := strings.Cut(s, " ")
		out = append(out, api.Col{Name: name, Kind: map[string]api.Kind{"int": api.Int, "text": api.Text}[kind]})
	}
	return out
}

func table(name, parent string, ref int, said ...string) api.Table {
	return api.Table{Name: name, Cols: cols(said...), Parent: parent, Ref: ref}
}

func sameList(a, b []string) bool { return len(a) == len(b) && (len(a) == 0 || slices.Equal(a, b)) }

// sameTable takes a nil list and an empty one as the same.
func sameTable(a, b api.Table) bool {
	return a.Name == b.Name && a.Parent == b.Parent && a.Ref == b.Ref && slices.Equal(a.Cols, b.Cols)
}

func sameTables(a, b []api.Table) bool { return slices.EqualFunc(a, b, sameTable) }

// made is a catalog of tables that can all be laid in.
func made(t *testing.T, tables ...api.Table) *schema.Catalog {
	t.Helper()
	c := schema.New()
	for _, x := range tables {
		if e := c.Create(x); e != api.OK {
			t.Fatalf("Create(%v) = %d", x, e)
		}
	}
	return c
}

// model is the tables as a plain list, in the order in which they came.
type model []api.Table

func (m model) find(name string) int {
	return slices.IndexFunc(m, func(t api.Table) bool { return t.Name == name })
}

func (m model) create(t api.Table) (model, api.Errno) {
	if !rightModel(t) {
		return m, api.ErrForm
	}
	if m.find(t.Name) >= 0 {
		return m, api.ErrExist
	}
	if len(m) == api.MaxTables {
		return m, api.ErrSpace
	}
	if t.Parent != "" {
		p := m.find(t.Parent)
		if p < 0 {
			return m, api.ErrNoent
		}
		if m[p].Cols[0].Kind != t.Cols[t.Ref].Kind {
			return m, api.ErrType
		}
	}
	return append(slices.Clip(m), t), api.OK
}

func (m model) names(only func(api.Table) bool) []string {
	var out []string
	for _, t := range m {
		if only(t) {
			out = append(out, t.Name)
		}
	}
	return out
}

// check asks a catalog all that can be asked, and holds it against the list.
func check(t *testing.T, c *schema.Catalog, m model, asked []string) {
	t.Helper()
	all := m.names(func(api.Table) bool { return true })
	if got := c.Names(); !sameList(got, all) {
		t.Fatalf("Names() = %q, not %q", got, all)
	}
	if got := c.Tables(); !sameTables(got, m) {
		t.Fatalf("Tables() = %v, not %v", got, m)
	}
	for _, name := range asked {
		got, ok := c.Get(name)
		i := m.find(name)
		if ok != (i >= 0) || ok && !sameTable(got, m[i]) || !ok && !reflect.DeepEqual(got, api.Table{}) {
			t.Fatalf("Get(%q) = %v, %v of %v", name, got, ok, m)
		}
		want := m.names(func(t api.Table) bool { return name != "" && t.Parent == name })
		if got := c.Children(name); !sameList(got, want) {
			t.Fatalf("Children(%q) = %q, not %q", name, got, want)
		}
	}
}

// candidates are tables of few names that refer to each other, and some that can't be.
func candidates() []api.Table {
	return []api.Table{
		table("a", "", 0, "k int"),
		table("b", "", 0, "k text"),
		table("a", "b", 1, "k int", "r text"),
		table("b", "a", 1, "k text", "r int"),
		table("c", "a", 2, "k int", "v text", "r int"),
		table("c", "b", 1, "k text", "r int"),
		table("d", "c", 1, "k int", "r int"),
		table("d", "d", 1, "k int", "r int"),
		table("e", "", 1, "k int", "r int"),
		table("e", "a", 0, "k int", "r int"),
	}
}

func TestP9_1AllShortRunsOfCreate(t *testing.T) {
	asked := []string{"a", "b", "c", "d", "e", "", "A", "k", "to", "\xff"}
	var grow func(c *schema.Catalog, m model, left int)
	grow = func(c *schema.Catalog, m model, left int) {
		check(t, c, m, asked)
		if left == 0 {
			return
		}
		for _, x := range candidates() {
			fork := c.Fork()
			next, want := m.create(x)
			if got := fork.Create(x); got != want {
				t.Fatalf("Create(%v) = %d, not %d, behind %v", x, got, want, m)
			}
			grow(fork, next, left-1)
		}
		check(t, c, m, asked)
	}
	grow(schema.New(), nil, 4)
}

func TestP9_1RightOfAllParts(t *testing.T) {
	names := []string{"", "t", "abcdefgh", "abcdefghi", "to", "T", "1a", "a1", "a_", "_a", "ä", "\xff", "a b"}
	lists := [][]api.Col{
		nil, {}, cols("a int"), cols("a text"), cols("a "), cols(" int"), cols("int int"), cols("A int"), cols("abcdefghi int"),
		cols("a int", "b text"), cols("a int", "a text"), cols("a int", "b "), cols("a int", "to int"), cols("a int", " int"), cols("a int", "t int"),
		cols("a int", "b int", "c int"), cols("a int", "b int", "a int"), cols("a int", "b int", "b int"),
		cols("a int", "b int", "c int", "d text"), cols("a int", "b int", "c int", "c text"), cols("a int", "b int", "c int", "D text"), cols("a int", "b int", "c int", "d "),
		cols("a int", "b int", "c int", "d text", "e text"),
		{{Name: "a", Kind: 3}}, {{Name: "a", Kind: 255}}, {{Name: "a", Kind: api.Int}, {Name: "b", Kind: 3}},
	}
	refs := []int{math.MinInt, -1, 0, 1, 2, 3, 4, 5, math.MaxInt}
	right := 0
	for _, name := range names {
		for _, list := range lists {
			for _, parent := range names {
				for _, ref := range refs {
					x := api.Table{Name: name, Cols: list, Parent: parent, Ref: ref}
					want := rightModel(x)
					if got := schema.Right(x); got != want {
						t.Fatalf("Right(%#v) = %v", x, got)
					}
					if want {
						right++
					}
					if e := schema.New().Create(x); (e == api.ErrForm) == want {
						t.Fatalf("Create(%#v) = %d", x, e)
					}
				}
			}
		}
	}
	if right == 0 {
		t.Fatal("no table was right")
	}
}

func TestP9_1RightAtTheEdges(t *testing.T) {
	var most []string
	for i := range api.MaxCols {
		most = append(most, fmt.Sprintf("c%d int", i))
	}
	last := api.MaxCols - 1
	for _, c := range []struct {
		what string
		t    api.Table
		want bool
	}{
		{"one column", table("t", "", 0, "k int"), true},
		{"no column", table("t", "", 0), false},
		{"MaxCols columns", table("t", "", 0, most...), true},
		{"one more", table("t", "", 0, append(most, "z int")...), false},
		{"a name twice", table("t", "", 0, "k int", "v int", "k text"), false},
		{"no kind", table("t", "", 0, "k int", "v "), false},
		{"a column of the table's name", table("t", "", 0, "t int"), true},
		{"a key word as a table", table("table", "", 0, "k int"), false},
		{"a key word as a column", table("t", "", 0, "k int", "of int"), false},
		{"a key word as a parent", table("t", "order", 1, "k int", "r int"), false},
		{"no name", table("", "", 0, "k int"), false},
		{"a column without a name", table("t", "", 0, " int"), false},
		{"a capital", table("T", "", 0, "k int"), false},
		{"a parent without a Ref", table("t", "p", 0, "k int", "r int"), false},
		{"a Ref without a parent", table("t", "", 1, "k int", "r int"), false},
		{"a Ref below 0 without a parent", table("t", "", -1, "k int", "r int"), false},
		{"a Ref of the last column", table("t", "p", last, most...), true},
		{"a Ref of one more", table("t", "p", last+1, most...), false},
		{"a Ref below 0", table("t", "p", -1, most...), false},
		{"the only column as Ref", table("t", "p", 1, "k int"), false},
		{"a parent that is no name", table("t", "P", 1, "k int", "r int"), false},
		{"itself as its parent", table("t", "t", 1, "k int", "r int"), true},
		{"nothing at all", api.Table{}, false},
	} {
		if got := schema.Right(c.t); got != c.want {
			t.Errorf("%s: Right(%v) = %v", c.what, c.t, got)
		}
	}
	for _, k := range strings.Fields(keyWords) {
		if schema.Right(table(k, "", 0, "k int")) || schema.Right(table("t", "", 0, k+" int")) || schema.Right(table("t", k, 1, "k int", "r int")) {
			t.Errorf("%s is a name", k)
		}
	}
}

func TestP9_1Column(t *testing.T) {
	list := cols("a int", "b text", "a text", " int", "c int")
	for name, want := range map[string]int{"a": 0, "b": 1, "": 3, "c": 4, "z": -1, "A": -1, "a ": -1, "ab": -1, "\xff": -1} {
		if got := schema.Column(list, name); got != want {
			t.Errorf("Column(%q) = %d, not %d", name, got, want)
		}
	}
	if schema.Column(nil, "") != -1 || schema.Column(nil, "a") != -1 || schema.Column(cols("a int"), "") != -1 {
		t.Error("a name is found where there is none")
	}
	many := make([]api.Col, 1000)
	many[999].Name = "z"
	if got := schema.Column(many, "z"); got != 999 {
		t.Errorf("Column of many = %d", got)
	}
}

// Of each error there is a table to which all that are named behind it would fit, too.
func TestP9_1ErrorsInTheirOrder(t *testing.T) {
	full := made(t, table("a", "", 0, "k int"), table("b", "", 0, "k text"), table("c", "", 0, "k int"))
	room := made(t, table("a", "", 0, "k int"), table("b", "", 0, "k text"))
	for _, c := range []struct {
		what string
		c    *schema.Catalog
		t    api.Table
		want api.Errno
	}{
		{"nil, and wrong", nil, api.Table{}, api.ErrNil},
		{"nil", nil, table("a", "", 0, "k int"), api.ErrNil},
		{"wrong, there, full, no parent", full, table("a", "z", 2, "k int", "r int"), api.ErrForm},
		{"wrong, there, full", full, table("a", "", 0), api.ErrForm},
		{"wrong, full, another kind", full, table("d", "b", 1, "k int", "r int", "r int"), api.ErrForm},
		{"there, full, no parent", full, table("a", "z", 1, "k int", "r int"), api.ErrExist},
		{"there, full, another kind", full, table("a", "b", 1, "k int", "r int"), api.ErrExist},
		{"there, full", full, table("c", "", 0, "k int"), api.ErrExist},
		{"there, no parent", room, table("a", "z", 1, "k int", "r int"), api.ErrExist},
		{"there, itself as its parent", room, table("a", "a", 1, "k int", "r int"), api.ErrExist},
		{"there, another kind", room, table("b", "b", 1, "k int", "r int"), api.ErrExist},
		{"full, no parent", full, table("d", "z", 1, "k int", "r int"), api.ErrSpace},
		{"full, another kind", full, table("d", "b", 1, "k int", "r int"), api.ErrSpace},
		{"full, itself as its parent", full, table("d", "d", 1, "k int", "r int"), api.ErrSpace},
		{"full", full, table("d", "", 0, "k int"), api.ErrSpace},
		{"no parent", room, table("d", "z", 1, "k int", "r int"), api.ErrNoent},
		{"itself as its parent", room, table("d", "d", 1, "k int", "r int"), api.ErrNoent},
		{"another kind, a text wanted", room, table("d", "b", 1, "k text", "r int"), api.ErrType},
		{"another kind, a number wanted", room, table("d", "a", 1, "k int", "r text"), api.ErrType},
		{"another kind in the last column", room, table("d", "a", 3, "k int", "v int", "w int", "r text"), api.ErrType},
	} {
		names := c.c.Names()
		before := c.c.Tables()
		if got := c.c.Create(c.t); got != c.want {
			t.Errorf("%s: Create(%v) = %d, not %d", c.what, c.t, got, c.want)
		}
		if !sameList(c.c.Names(), names) || !sameTables(c.c.Tables(), before) {
			t.Errorf("%s: what is refused is there", c.what)
		}
	}
}

// The kind that counts is that of the parent's first column, not of any other, whichever the parent's own Ref is.
func TestP9_1KindOfTheKey(t *testing.T) {
	c := made(t, table("p", "", 0, "k text", "v int"))
	if e := c.Create(table("q", "p", 1, "k int", "r int")); e != api.ErrType {
		t.Errorf("a number that refers to a text: %d", e)
	}
	if e := c.Create(table("q", "p", 2, "k int", "v int", "r text")); e != api.OK {
		t.Errorf("a text that refers to a text: %d", e)
	}
	if e := c.Create(table("s", "q", 1, "k int", "r text")); e != api.ErrType {
		t.Errorf("a text that refers to a number: %d", e)
	}
	if e := c.Create(table("s", "q", 1, "k text", "r int")); e != api.OK {
		t.Errorf("a number that refers to a number: %d", e)
	}
}

func TestP9_1MaxTables(t *testing.T) {
	c := schema.New()
	for i := range api.MaxTables {
		if e := c.Create(table(fmt.Sprintf("t%d", i), "", 0, "k int")); e != api.OK {
			t.Fatalf("table %d: %d", i, e)
		}
	}
	for range 2 {
		if e := c.Create(table("more", "", 0, "k int")); e != api.ErrSpace {
			t.Errorf("one more: %d", e)
		}
	}
	if _, ok := c.Get("more"); ok || len(c.Names()) != api.MaxTables || len(c.Tables()) != api.MaxTables {
		t.Error("one more is there")
	}
}

func TestP9_1Example(t *testing.T) {
	dept := table("dept", "", 0, "name text")
	emp := table("emp", "dept", 1, "id int", "dept text")
	c := schema.New()
	if e := c.Create(emp); e != api.ErrNoent {
		t.Errorf("emp ahead of dept: %d", e)
	}
	if c.Create(dept) != api.OK || c.Create(emp) != api.OK || !sameList(c.Children("dept"), []string{"emp"}) {
		t.Error("emp does not refer to dept")
	}
	if got, ok := c.Get("emp"); !ok || !sameTable(got, emp) {
		t.Errorf("Get(emp) = %v, %v", got, ok)
	}
}

func TestP9_1Children(t *testing.T) {
	none := made(t, table("b", "", 0, "k int"), table("a", "", 0, "k int"))
	two := made(t, table("p", "", 0, "k int"), table("z", "p", 1, "k int", "r int"), table("a", "p", 1, "k int", "r int"))
	chain := made(t, table("p", "", 0, "k int"), table("q", "p", 1, "k int", "r int"), table("s", "q", 1, "k int", "r int"))
	for _, c := range []struct {
		c    *schema.Catalog
		name string
		want []string
	}{
		{none, "a", nil}, {none, "b", nil}, {none, "", nil}, {none, "z", nil}, {schema.New(), "", nil}, {schema.New(), "a", nil}, {nil, "", nil}, {nil, "a", nil},
		{two, "p", []string{"z", "a"}}, {two, "z", nil}, {two, "", nil}, {two, "P", nil},
		{chain, "p", []string{"q"}}, {chain, "q", []string{"s"}}, {chain, "s", nil}, {chain, "", nil},
	} {
		if got := c.c.Children(c.name); !sameList(got, c.want) {
			t.Errorf("Children(%q) of %v = %q, not %q", c.name, c.c.Names(), got, c.want)
		}
	}
}

func TestP9_1Same(t *testing.T) {
	a, b := table("a", "", 0, "k int"), table("b", "", 0, "k int")
	pair := made(t, a, b)
	ref := made(t, a, b, table("c", "a", 1, "k int", "r int", "s int"))
	for _, c := range []struct {
		what string
		x, y *schema.Catalog
		want bool
	}{
		{"two nil ones", nil, nil, false},
		{"a nil one and an empty one", nil, schema.New(), false},
		{"a nil one and another", nil, pair, false},
		{"two empty ones", schema.New(), schema.New(), true},
		{"an empty one and another", schema.New(), pair, false},
		{"itself", pair, pair, true},
		{"the same tables", pair, made(t, a, b), true},
		{"another order", pair, made(t, b, a), false},
		{"one fewer", pair, made(t, a), false},
		{"one more", pair, made(t, a, b, table("c", "", 0, "k int")), false},
		{"another name", pair, made(t, a, table("c", "", 0, "k int")), false},
		{"another column", pair, made(t, a, table("b", "", 0, "l int")), false},
		{"another kind", pair, made(t, a, table("b", "", 0, "k text")), false},
		{"a column more", pair, made(t, a, table("b", "", 0, "k int", "v int")), false},
		{"another first one", pair, made(t, table("a", "", 0, "k text"), b), false},
		{"its fork", ref, ref.Fork(), true},
		{"another parent", ref, made(t, a, b, table("c", "b", 1, "k int", "r int", "s int")), false},
		{"another Ref", ref, made(t, a, b, table("c", "a", 2, "k int", "r int", "s int")), false},
		{"no parent", ref, made(t, a, b, table("c", "", 0, "k int", "r int", "s int")), false},
		{"columns in another order", ref, made(t, a, b, table("c", "a", 1, "k int", "s int", "r int")), false},
	} {
		if c.x.Same(c.y) != c.want || c.y.Same(c.x) != c.want {
			t.Errorf("%s: Same is %v, %v", c.what, c.x.Same(c.y), c.y.Same(c.x))
		}
	}
}

// Same is held against the lists of all catalogs that few tables make.
func TestP9_1SameOfMany(t *testing.T) {
	type kept struct {
		c *schema.Catalog
		m model
	}
	all := []kept{{schema.New(), nil}}
	for i := 0; i < len(all); i++ {
		for _, x := range candidates()[:7] {
			fork := all[i].c.Fork()
			if m, e := all[i].m.create(x); e == api.OK && fork.Create(x) == api.OK {
				all = append(all, kept{fork, m})
			}
		}
	}
	if len(all) < 15 {
		t.Fatalf("only %d catalogs", len(all))
	}
	for _, x := range all {
		for _, y := range all {
			if got := x.c.Same(y.c); got != sameTables(x.m, y.m) {
				t.Fatalf("Same of %v and %v is %v", x.m, y.m, got)
			}
		}
	}
}

// A parent was there first: each table's place is behind its parent's, whatever was tried.
func TestP9_2NoCircle(t *testing.T) {
	var grow func(c *schema.Catalog, left int)
	grow = func(c *schema.Catalog, left int) {
		names := c.Names()
		for i, x := range c.Tables() {
			if x.Parent != "" && !slices.Contains(names[:i], x.Parent) {
				t.Fatalf("%s refers to %s, which was not there: %q", x.Name, x.Parent, names)
			}
		}
		if left == 0 {
			return
		}
		for _, name := range []string{"a", "b", "c"} {
			for _, parent := range []string{"", "a", "b", "c"} {
				fork := c.Fork()
				if parent == "" {
					fork.Create(table(name, "", 0, "k int", "r int"))
				} else {
					fork.Create(table(name, parent, 1, "k int", "r int"))
				}
				grow(fork, left-1)
			}
		}
	}
	grow(schema.New(), 4)
	c := schema.New()
	if e := c.Create(table("a", "a", 1, "k int", "r int")); e != api.ErrNoent {
		t.Errorf("a table that refers to itself: %d", e)
	}
	if e := c.Create(table("a", "b", 1, "k int", "r int")); e != api.ErrNoent {
		t.Errorf("the first of a circle: %d", e)
	}
}

func TestP1Nil(t *testing.T) {
	var c *schema.Catalog
	got, ok := c.Get("a")
	if ok || !reflect.DeepEqual(got, api.Table{}) || len(c.Names()) != 0 || len(c.Children("a")) != 0 || len(c.Tables()) != 0 {
		t.Error("a nil catalog has tables")
	}
	if c.Fork() != nil {
		t.Error("a nil catalog's fork is not nil")
	}
	if c.Create(table("a", "", 0, "k int")) != api.ErrNil || c.Create(api.Table{}) != api.ErrNil {
		t.Error("a nil catalog takes tables")
	}
}

func TestP1LongTables(t *testing.T) {
	long := strings.Repeat("a", 1<<17)
	many := make([]api.Col, 1<<17)
	c := schema.New()
	for _, x := range []api.Table{
		{Name: long, Cols: cols("k int")}, {Name: "t", Cols: many}, {Name: "t", Cols: []api.Col{{Name: long, Kind: api.Int}}},
		{Name: "t", Cols: cols("k int", "r int"), Parent: long, Ref: 1}, {Name: "t", Cols: many, Parent: "t", Ref: 1 << 16},
	} {
		if schema.Right(x) || c.Create(x) != api.ErrForm {
			t.Error("a long table is right")
		}
	}
	if _, ok := c.Get(long); ok || len(c.Children(long)) != 0 || schema.Column(many, long) != -1 {
		t.Error("a long name is found")
	}
}

// spare is columns that lie in a longer list, with something behind their end.
func spare(said ...string) (front, whole []api.Col) {
	whole = append(cols(said...), cols("x text", "y text")...)
	return whole[:len(said)], whole
}

func TestP3WhatIsHandedInStays(t *testing.T) {
	front, whole := spare("k int", "r int")
	kept := slices.Clone(whole)
	c := made(t, table("p", "", 0, "k int"))
	x := api.Table{Name: "q", Cols: front, Parent: "p", Ref: 1}
	if !schema.Right(x) || schema.Column(front, "x") != -1 || c.Create(x) != api.OK || !slices.Equal(whole, kept) {
		t.Fatalf("what was handed in is %v", whole)
	}
	// The catalog does not follow what becomes of the list.
	whole[0], whole[1] = api.Col{}, api.Col{Name: "z", Kind: api.Text}
	if got, _ := c.Get("q"); !slices.Equal(got.Cols, kept[:2]) {
		t.Errorf("Get(q) = %v", got)
	}
}

// scribble writes over all of a list, its spare room too.
func scribble[T any](l []T) {
	l = l[:cap(l)]
	clear(l)
}

func TestP3WhatIsAnsweredIsTheCallers(t *testing.T) {
	m := model{table("p", "", 0, "k int"), table("q", "p", 1, "k int", "r int"), table("s", "p", 1, "k int", "r int")}
	c := made(t, m...)
	fork := c.Fork()
	asked := []string{"p", "q", "s", ""}
	for _, name := range asked {
		x, _ := c.Get(name)
		y, _ := c.Get(name)
		scribble(x.Cols)
		if i := m.find(name); i >= 0 && !sameTable(y, m[i]) {
			t.Errorf("two answers of Get share: %v", y)
		}
		check(t, c, m, asked)
	}
	x, y := c.Tables(), c.Tables()
	scribble(x[1].Cols)
	if !sameTables(y, m) || !slices.Equal(x[2].Cols, m[2].Cols) {
		t.Errorf("columns are shared: %v, %v", x, y)
	}
	scribble(x)
	n := c.Names()
	scribble(n)
	l, other := c.Children("p"), c.Children("p")
	scribble(l)
	if !sameList(other, []string{"q", "s"}) {
		t.Errorf("two answers of Children share: %q", other)
	}
	_ = append(c.Names()[:1], "zz")
	check(t, c, m, asked)
	check(t, fork, m, asked)
}

func TestP4Forks(t *testing.T) {
	asked := []string{"a", "b", "c", "d"}
	a, b := table("a", "", 0, "k int"), table("b", "a", 1, "k int", "r int")
	x, y := table("c", "a", 1, "k int", "r int"), table("d", "", 0, "k text")
	c := made(t, a)
	fork := c.Fork()
	if c.Create(b) != api.OK {
		t.Fatal("b")
	}
	check(t, c, model{a, b}, asked)
	check(t, fork, model{a}, asked)
	// Both go on from one list of names, whose spare room must not be shared.
	second := c.Fork()
	if c.Create(x) != api.OK || second.Create(y) != api.OK || fork.Create(y) != api.OK {
		t.Fatal("a fork does not go on")
	}
	check(t, c, model{a, b, x}, asked)
	check(t, second, model{a, b, y}, asked)
	check(t, fork, model{a, y}, asked)
	if c.Same(second) || c.Same(fork) || !second.Same(second.Fork()) {
		t.Error("Same does not tell forks apart")
	}
	other := table("b", "", 0, "k text")
	if fork.Create(other) != api.OK {
		t.Fatal("another b")
	}
	check(t, c, model{a, b, x}, asked)
	check(t, fork, model{a, y, other}, asked)
}

// What a call answers hangs on its arguments and the catalog alone: another catalog, made meanwhile, changes nothing.
func TestP6NothingIsKept(t *testing.T) {
	a := table("a", "", 0, "k int")
	c := made(t, a)
	for range 3 {
		o := made(t, table("a", "", 0, "k text"), table("b", "", 0, "k int"))
		check(t, c, model{a}, []string{"a", "b"})
		if len(schema.New().Names()) != 0 || o.Same(c) {
			t.Fatal("catalogs share")
		}
	}
}
