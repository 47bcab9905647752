package vers_test

import (
	"fmt"
	"math"
	"slices"
	"strings"
	"testing"

	"regesta/api"
	"regesta/rows"
	"regesta/vers"
)

// The calls are those of the chapter.
var (
	_ func() *vers.Store                                         = vers.New
	_ func(int, []api.Version) (*vers.Store, api.Errno)          = vers.Of
	_ func(*vers.Store, int, []api.Change) api.Errno             = (*vers.Store).Apply
	_ func(*vers.Store, *rows.State) []api.Change                = (*vers.Store).Diff
	_ func(*vers.Store, int) *rows.State                         = (*vers.Store).AsOf
	_ func(*vers.Store) *rows.State                              = (*vers.Store).Current
	_ func(*vers.Store, string, api.Span) []api.Out              = (*vers.Store).During
	_ func(*vers.Store) int                                      = (*vers.Store).Last
	_ func(*vers.Store) []api.Version                            = (*vers.Store).Versions
	_ func(*vers.Store, int) int                                 = (*vers.Store).Drop
	_ func(*vers.Store) *vers.Store                              = (*vers.Store).Fork
	_ func(s *vers.Store, a, b int) []api.Change                 = (*vers.Store).Between
	_ func(*vers.Store, string, api.Value) (story []api.Version) = (*vers.Store).Story
	_ func(*vers.Store) []int                                    = (*vers.Store).Instants
)

const (
	clock   = 1 << 30
	forever = 1 << 40
)

func num(n int64) api.Value  { return api.Value{Kind: api.Int, Num: n} }
func str(s string) api.Value { return api.Value{Kind: api.Text, Str: s} }

// row has values of numbers, of texts, or as they are.
func row(from, to int, vals ...any) api.Row {
	r := api.Row{Span: api.Span{From: from, To: to}}
	for _, v := range vals {
		switch x := v.(type) {
		case int:
			r.Vals = append(r.Vals, num(int64(x)))
		case string:
			r.Vals = append(r.Vals, str(x))
		case api.Value:
			r.Vals = append(r.Vals, x)
		}
	}
	return r
}

func list(l ...api.Row) []api.Row { return l }

func version(table string, r api.Row, from, to int) api.Version {
	return api.Version{Table: table, Row: r, Sys: api.Span{From: from, To: to}}
}

func change(table string, gone, come []api.Row) api.Change {
	return api.Change{Table: table, Gone: gone, Come: come}
}

func out(r api.Row, from, to int) api.Out {
	return api.Out{Vals: r.Vals, Span: r.Span, Sys: api.Span{From: from, To: to}}
}

// told is a thing as a text; nil lists and empty ones are told alike.
func told(x any) string { return fmt.Sprintf("%v", x) }

// toldState has its tables, and their rows.
func toldState(s *rows.State) string {
	if s == nil {
		return "nil"
	}
	text := ""
	for _, name := range s.Names() {
		text += fmt.Sprintf("%q %v; ", name, s.Get(name))
	}
	return text
}

// whole is all that a store has, as a text.
func whole(s *vers.Store) string { return fmt.Sprint(s.Last(), s.Versions()) }

func want(t *testing.T, call string, got, want any) {
	t.Helper()
	if told(got) != told(want) {
		t.Fatalf("%s = %v, not %v", call, got, want)
	}
}

func of(t *testing.T, last int, l ...api.Version) *vers.Store {
	t.Helper()
	s, e := vers.Of(last, l)
	if e != api.OK {
		t.Fatalf("Of(%d, %v) = %d", last, l, e)
	}
	return s
}

func apply(t *testing.T, s *vers.Store, at int, l ...api.Change) {
	t.Helper()
	if e := s.Apply(at, l); e != api.OK {
		t.Fatalf("Apply(%d, %v) = %d", at, l, e)
	}
	if s.Last() != at {
		t.Fatalf("behind Apply(%d) Last is %d", at, s.Last())
	}
}

// refused tells whether Apply answers the error, and changes nothing.
func refused(t *testing.T, s *vers.Store, errno api.Errno, at int, l ...api.Change) {
	t.Helper()
	ahead := whole(s)
	if e := s.Apply(at, l); e != errno {
		t.Fatalf("Apply(%d, %v) = %d, not %d", at, l, e, errno)
	}
	if after := whole(s); after != ahead {
		t.Fatalf("behind a refused Apply(%d, %v) there is %s, not %s", at, l, after, ahead)
	}
}

// wrongRows are none that a table can have.
func wrongRows() []api.Row {
	return list(row(0, 5), row(5, 5, 1), row(6, 5, 1), row(-1001, 5, 1), row(0, 1001, 1), row(0, 0, 1), row(math.MinInt, math.MaxInt, 1), row(0, 5, 1, 2, 3, 4, 5), row(0, 5, api.Value{}), row(0, 5, 1, api.Value{Kind: 9}), row(0, 5, "\xff"), row(0, 5, "123456789"), row(0, 5, api.Value{Kind: api.Int, Num: 1, Str: "x"}), row(0, 5, api.Value{Kind: api.Text, Num: 1, Str: "x"}), api.Row{})
}

func TestP18_1New(t *testing.T) {
	s := vers.New()
	if s == nil || s.Last() != 0 || len(s.Versions()) > 0 || len(s.Instants()) > 0 || toldState(s.Current()) != "" || toldState(s.AsOf(5)) != "" || len(s.Story("t", num(1))) > 0 || len(s.During("t", api.Span{From: 0, To: forever})) > 0 || s.Drop(clock) != 0 || len(s.Between(0, 9)) > 0 || len(s.Diff(rows.New())) > 0 {
		t.Error("a new store has something")
	}
}

func TestP18_1OfLast(t *testing.T) {
	for last, errno := range map[int]api.Errno{math.MinInt: api.ErrRange, -1: api.ErrRange, 0: api.OK, 1: api.OK, clock: api.OK, clock + 1: api.ErrRange, forever: api.ErrRange, math.MaxInt: api.ErrRange} {
		s, e := vers.Of(last, nil)
		if e != errno || (s == nil) != (e != api.OK) {
			t.Fatalf("Of(%d) = %v, %d", last, s, e)
		}
		if s != nil && (s.Last() != last || len(s.Versions()) > 0) {
			t.Errorf("Of(%d) has the last instant %d", last, s.Last())
		}
		// The range is asked first.
		if _, e := vers.Of(last, []api.Version{{}}); errno == api.ErrRange && e != api.ErrRange || errno == api.OK && e != api.ErrForm {
			t.Errorf("Of(%d) of a wrong version = %d", last, e)
		}
	}
	s := of(t, clock, version("t", row(0, 5, 1), clock, forever), version("t", row(0, 5, 1), clock-1, clock))
	want(t, "Versions", s.Versions(), []api.Version{version("t", row(0, 5, 1), clock-1, clock), version("t", row(0, 5, 1), clock, forever)})
	if toldState(s.Current()) != toldState(s.AsOf(clock)) || toldState(s.Current()) == "" {
		t.Error("Current is not what is in force at the last instant")
	}
}

func TestP18_1OfForm(t *testing.T) {
	r := row(0, 5, 1)
	for _, x := range []struct {
		v     api.Version
		errno api.Errno
	}{
		{version("t", r, 3, 7), api.OK}, {version("", r, 3, 7), api.ErrForm}, {version("\xff", r, 3, 7), api.OK}, {version("no name", r, 3, 7), api.OK}, {version("table", row(-1000, 1000, "", 1, -1, "ä"), 3, 7), api.OK},
		// Sys.From above 0, ahead of Sys.To, at most last.
		{version("t", r, 1, 7), api.OK}, {version("t", r, 0, 7), api.ErrForm}, {version("t", r, -1, 7), api.ErrForm}, {version("t", r, math.MinInt, 7), api.ErrForm}, {version("t", r, 7, 7), api.ErrForm}, {version("t", r, 8, 7), api.ErrForm}, {version("t", r, 9, 10), api.OK}, {version("t", r, 10, 10), api.ErrForm}, {version("t", r, 10, forever), api.OK}, {version("t", r, 11, forever), api.ErrForm}, {version("t", r, 0, forever), api.ErrForm}, {version("t", r, forever, forever), api.ErrForm}, {version("t", r, math.MaxInt, forever), api.ErrForm},
		// Sys.To at most last, or Forever.
		{version("t", r, 3, 10), api.OK}, {version("t", r, 3, 11), api.ErrForm}, {version("t", r, 3, forever), api.OK}, {version("t", r, 3, forever-1), api.ErrForm}, {version("t", r, 3, forever+1), api.ErrForm}, {version("t", r, 3, math.MaxInt), api.ErrForm}, {version("t", r, 3, 0), api.ErrForm}, {version("t", r, 3, -1), api.ErrForm}, {version("t", r, 3, clock), api.ErrForm}, {api.Version{}, api.ErrForm},
	} {
		s, e := vers.Of(10, []api.Version{x.v})
		if e != x.errno || (s == nil) != (e != api.OK) {
			t.Fatalf("Of(10, %v) = %v, %d", x.v, s, e)
		}
		if e == api.OK {
			want(t, "Versions", s.Versions(), []api.Version{x.v})
		}
		// It matters wherever it stands.
		fine := version("s", r, 3, 7)
		for _, l := range [][]api.Version{{x.v, fine}, {fine, x.v}} {
			if _, e := vers.Of(10, l); e != x.errno {
				t.Errorf("Of(10, %v) = %d", l, e)
			}
		}
	}
	for _, r := range wrongRows() {
		if s, e := vers.Of(10, []api.Version{version("t", r, 3, 7)}); s != nil || e != api.ErrForm {
			t.Errorf("Of(10) of %v = %d", r, e)
		}
	}
}

func TestP18_1OfTwoOfOneRow(t *testing.T) {
	r := row(0, 5, 1)
	for _, x := range []struct {
		l     []api.Version
		errno api.Errno
	}{
		// They meet, or lie apart.
		{[]api.Version{version("t", r, 3, 5), version("t", r, 5, 7)}, api.OK}, {[]api.Version{version("t", r, 3, 5), version("t", r, 5, forever)}, api.OK}, {[]api.Version{version("t", r, 3, 5), version("t", r, 6, 7), version("t", r, 1, 2)}, api.OK},
		// They overlap.
		{[]api.Version{version("t", r, 3, 6), version("t", r, 5, 7)}, api.ErrExist}, {[]api.Version{version("t", r, 3, 9), version("t", r, 5, 7)}, api.ErrExist}, {[]api.Version{version("t", r, 3, 9), version("t", r, 3, 9)}, api.ErrExist}, {[]api.Version{version("t", r, 3, forever), version("t", r, 3, forever)}, api.ErrExist}, {[]api.Version{version("t", r, 3, forever), version("t", r, 9, 10)}, api.ErrExist}, {[]api.Version{version("t", r, 3, forever), version("t", r, 10, forever)}, api.ErrExist}, {[]api.Version{version("t", r, 3, 9), version("t", r, 3, 4)}, api.ErrExist},
		// Others lie between.
		{[]api.Version{version("t", r, 3, 9), version("s", r, 4, 5), version("t", row(0, 6, 1), 4, 6), version("t", r, 8, 10)}, api.ErrExist}, {[]api.Version{version("t", r, 1, 2), version("t", r, 3, 4), version("t", r, 2, 3), version("t", r, 9, 10), version("t", r, 1, 2)}, api.ErrExist},
		// Other tables, other values, another span: other rows.
		{[]api.Version{version("t", r, 3, 9), version("s", r, 3, 9)}, api.OK}, {[]api.Version{version("t", r, 3, 9), version("t", row(0, 5, 2), 3, 9)}, api.OK}, {[]api.Version{version("t", r, 3, 9), version("t", row(0, 5, 1, 1), 3, 9)}, api.OK}, {[]api.Version{version("t", r, 3, 9), version("t", row(0, 6, 1), 3, 9)}, api.OK}, {[]api.Version{version("t", r, 3, 9), version("t", row(1, 5, 1), 3, 9)}, api.OK}, {[]api.Version{version("t", row(0, 5, "a", "b"), 3, 9), version("t", row(0, 5, "ab"), 3, 9)}, api.OK}, {[]api.Version{version("t", r, 3, 9), version("t", row(0, 5, "1"), 3, 9)}, api.OK},
		// What can't be is told first.
		{[]api.Version{version("t", r, 3, 9), version("t", r, 3, 9), version("", r, 3, 9)}, api.ErrForm},
	} {
		for range x.l {
			s, e := vers.Of(10, x.l)
			if e != x.errno || (s == nil) != (e != api.OK) {
				t.Fatalf("Of(10, %v) = %v, %d", x.l, s, e)
			}
			x.l = append(x.l[1:], x.l[0])
		}
	}
}

// numbered are as many versions, each of a row of its own.
func numbered(n int) []api.Version {
	var l []api.Version
	for i := range n {
		l = append(l, version("t", row(0, 5, i), 1+i%3, []int{4, 5, forever}[i%3]))
	}
	return l
}

func TestP18_1OfMaxVersions(t *testing.T) {
	if got := len(of(t, 10, numbered(60)...).Versions()); got != 60 {
		t.Errorf("%d versions of 60", got)
	}
	for _, n := range []int{61, 62, 1000} {
		if s, e := vers.Of(10, numbered(n)); s != nil || e != api.ErrSpace {
			t.Errorf("Of %d = %v, %d", n, s, e)
		}
		// Errors that are named ahead are told first.
		if _, e := vers.Of(10, append(numbered(n), version("t", row(0, 5, 0), 1, 2))); e != api.ErrExist {
			t.Errorf("Of %d and one again = %d", n, e)
		}
		if _, e := vers.Of(10, append(numbered(n), api.Version{})); e != api.ErrForm {
			t.Errorf("Of %d and one that can't be = %d", n, e)
		}
	}
}

func TestP18_2Example(t *testing.T) {
	s, r := vers.New(), row(0, 5, 1)
	apply(t, s, 3, change("t", nil, list(r)))
	want(t, "Versions", s.Versions(), []api.Version{version("t", r, 3, forever)})
	apply(t, s, 7, change("t", list(r), nil))
	want(t, "Versions", s.Versions(), []api.Version{version("t", r, 3, 7)})
}

func TestP18_2ApplyAt(t *testing.T) {
	r := row(0, 5, 1)
	s := of(t, 5, version("t", r, 3, forever))
	for _, at := range []int{math.MinInt, -1, 0, 4, 5, clock + 1, forever, math.MaxInt} {
		refused(t, s, api.ErrRange, at)
		refused(t, s, api.ErrRange, at, change("", nil, nil))
		refused(t, s, api.ErrRange, at, change("t", list(r), nil))
	}
	apply(t, s, 6)
	refused(t, s, api.ErrRange, 6, change("t", list(r), nil))
	apply(t, s, clock, change("t", list(r), list(row(0, 5, 2))))
	want(t, "Versions", s.Versions(), []api.Version{version("t", r, 3, clock), version("t", row(0, 5, 2), clock, forever)})
	for _, at := range []int{clock, clock + 1, math.MaxInt} {
		refused(t, s, api.ErrRange, at)
	}
	refused(t, vers.New(), api.ErrRange, 0)
	apply(t, vers.New(), 1)
	apply(t, vers.New(), clock)
}

func TestP18_2ApplyOfNothing(t *testing.T) {
	r := row(0, 5, 1)
	s := of(t, 5, version("t", r, 3, forever), version("t", r, 1, 2))
	ahead := told(s.Versions())
	for i, l := range [][]api.Change{nil, {}, {change("t", nil, nil)}, {change("t", list(), list()), change("none", nil, nil), change("\xff", nil, nil)}} {
		apply(t, s, 6+i, l...)
		want(t, "Versions", s.Versions(), ahead)
	}
}

func TestP18_2ApplyForm(t *testing.T) {
	r, other := row(0, 5, 1), row(0, 5, 2)
	s := of(t, 5, version("t", r, 3, forever), version("s", r, 3, forever))
	fine := change("s", list(r), list(other))
	for _, l := range [][]api.Change{
		// No name.
		{change("", nil, nil)}, {change("", nil, list(other))}, {fine, change("", list(r), nil)}, {change("", nil, nil), fine},
		// Twice.
		{change("t", nil, nil), change("t", nil, nil)}, {change("t", list(r), nil), change("t", nil, list(r))}, {change("t", list(r), nil), fine, change("t", nil, list(other))}, {fine, fine}, {change("none", nil, nil), change("none", nil, nil)},
		// Ahead of the other errors.
		{change("t", list(other, r, r), list(r, r)), change("t", nil, nil)}, {change("t", list(other, r, r), list(r, r)), change("", nil, nil)},
	} {
		refused(t, s, api.ErrForm, 9, l...)
	}
	for _, wrong := range wrongRows() {
		refused(t, s, api.ErrForm, 9, change("t", nil, list(wrong)))
		refused(t, s, api.ErrForm, 9, change("t", nil, list(other, wrong)))
		refused(t, s, api.ErrForm, 9, fine, change("t", list(r), list(wrong, other)))
		refused(t, s, api.ErrForm, 9, change("t", list(other), list(r)), change("s", nil, list(wrong)))
		// In Gone it is none that is in force.
		refused(t, s, api.ErrNoent, 9, change("t", list(wrong), nil))
		refused(t, s, api.ErrNoent, 9, change("t", list(wrong, wrong), nil))
	}
}

func TestP18_2ApplyGone(t *testing.T) {
	r, other, past := row(0, 5, 1), row(0, 5, 2), row(0, 5, 3)
	s := of(t, 5, version("t", r, 3, forever), version("t", other, 5, forever), version("t", past, 1, 5), version("s", row(0, 5, 9), 2, forever))
	for _, l := range [][]api.Change{
		{change("t", list(row(0, 5, 4)), nil)}, {change("t", list(past), nil)}, {change("t", list(row(0, 5, 9)), nil)}, {change("s", list(r), nil)}, {change("none", list(r), nil)}, {change("t", list(row(0, 6, 1)), nil)}, {change("t", list(row(0, 3, 1)), nil)}, {change("t", list(row(0, 5, 1, 1)), nil)}, {change("t", list(row(0, 5, "1")), nil)},
		// Each as often as it stands there.
		{change("t", list(r, r), nil)}, {change("t", list(r, other, r), nil)}, {change("t", list(r, r), list(r))}, {change("t", list(r, r), list(r, r))},
		// What comes is not in force yet.
		{change("t", list(row(0, 5, 4)), list(row(0, 5, 4)))}, {change("t", nil, list(row(0, 5, 4))), change("s", list(row(0, 5, 4)), nil)},
		// Ahead of ErrExist, wherever it stands.
		{change("t", nil, list(r)), change("s", list(r), nil)}, {change("t", list(past), list(r))}, {change("t", list(r, past), list(r))},
	} {
		refused(t, s, api.ErrNoent, 9, l...)
	}
	apply(t, s, 9, change("t", list(other, r), nil))
	want(t, "Versions", s.Versions(), []api.Version{version("t", past, 1, 5), version("s", row(0, 5, 9), 2, forever), version("t", r, 3, 9), version("t", other, 5, 9)})
	refused(t, s, api.ErrNoent, 10, change("t", list(r), nil))
}

func TestP18_2ApplyCome(t *testing.T) {
	r, other, past := row(0, 5, 1), row(0, 5, 2), row(0, 5, 3)
	s := of(t, 5, version("t", r, 3, forever), version("t", past, 1, 5), version("s", other, 2, forever))
	for _, l := range [][]api.Change{
		{change("t", nil, list(r))}, {change("t", nil, list(other, r))}, {change("s", list(other), nil), change("t", nil, list(r))},
		// It stands there twice; that it goes does not matter then.
		{change("t", nil, list(other, other))}, {change("t", nil, list(other, past, other))}, {change("t", list(r), list(r, r))}, {change("none", nil, list(r, r))},
		// Gone from another table.
		{change("s", list(other), list(r)), change("t", nil, list(r))},
	} {
		refused(t, s, api.ErrExist, 9, l...)
	}
	// One that has ended comes again; one that is in force in another table comes here.
	apply(t, s, 9, change("t", nil, list(past, other)), change("s", nil, list(r)))
	want(t, "Versions", s.Versions(), []api.Version{version("t", past, 1, 5), version("s", other, 2, forever), version("t", r, 3, forever), version("s", r, 9, forever), version("t", other, 9, forever), version("t", past, 9, forever)})
}

// A row in Gone and in Come ends, and begins anew.
func TestP18_2ApplyGoneAndCome(t *testing.T) {
	r, other := row(0, 5, 1), row(0, 5, 2)
	s := of(t, 5, version("t", r, 3, forever))
	apply(t, s, 6, change("t", list(r), list(other, r)))
	want(t, "Versions", s.Versions(), []api.Version{version("t", r, 3, 6), version("t", r, 6, forever), version("t", other, 6, forever)})
	apply(t, s, 7, change("t", list(other, r), list(r)))
	apply(t, s, 9, change("t", list(r), list(other)))
	want(t, "Versions", s.Versions(), []api.Version{version("t", r, 3, 6), version("t", r, 6, 7), version("t", other, 6, 7), version("t", r, 7, 9), version("t", other, 9, forever)})
}

func TestP18_2ApplyMaxVersions(t *testing.T) {
	r, other := row(0, 5, 1), row(0, 5, 2)
	s := of(t, 10, numbered(59)...)
	refused(t, s, api.ErrSpace, 11, change("s", nil, list(r, other)))
	refused(t, s, api.ErrSpace, 11, change("s", nil, list(r)), change("u", nil, list(r)))
	apply(t, s, 11, change("s", nil, list(r)))
	refused(t, s, api.ErrSpace, 12, change("u", nil, list(r)))
	// One that goes makes no room, since it is kept.
	refused(t, s, api.ErrSpace, 12, change("s", list(r), list(r)))
	refused(t, s, api.ErrSpace, 12, change("s", list(r), list(other)))
	// Errors that are named ahead are told first.
	refused(t, s, api.ErrExist, 12, change("s", nil, list(r)))
	refused(t, s, api.ErrNoent, 12, change("s", list(other), list(r)))
	refused(t, s, api.ErrForm, 12, change("", list(other), list(r)))
	apply(t, s, 12, change("s", list(r), nil))
	refused(t, s, api.ErrSpace, 13, change("s", nil, list(r)))
	if n := s.Drop(4); n != 20 {
		t.Errorf("Drop = %d", n)
	}
	apply(t, s, 13, change("s", nil, list(r)))
	if n := len(s.Versions()); n != 41 {
		t.Errorf("%d versions", n)
	}
}

// history has rows that came, went, and came again, in two tables.
func history(t *testing.T) *vers.Store {
	t.Helper()
	a, b, c := row(0, 5, 1, 0), row(5, 9, 1, 1), row(0, 9, 2, 0)
	s := vers.New()
	apply(t, s, 3, change("t", nil, list(a)))
	apply(t, s, 5, change("t", list(a), list(b, c)), change("s", nil, list(a)))
	apply(t, s, 7, change("t", list(c), list(c)))
	apply(t, s, 9, change("t", list(b), list(a)), change("s", list(a), nil))
	apply(t, s, 12)
	return s
}

func TestP18_3AsOf(t *testing.T) {
	a, b, c := row(0, 5, 1, 0), row(5, 9, 1, 1), row(0, 9, 2, 0)
	s := history(t)
	for _, x := range []struct {
		at     int
		ts, ss []api.Row
	}{
		// Ahead of all.
		{math.MinInt, nil, nil}, {-1, nil, nil}, {0, nil, nil}, {2, nil, nil},
		// Where something began, ended, or did both.
		{3, list(a), nil}, {4, list(a), nil}, {5, list(b, c), list(a)}, {6, list(b, c), list(a)}, {7, list(b, c), list(a)}, {8, list(b, c), list(a)}, {9, list(a, c), nil},
		// At Last, and behind it.
		{11, list(a, c), nil}, {12, list(a, c), nil}, {13, list(a, c), nil}, {clock, list(a, c), nil}, {clock + 1, list(a, c), nil}, {forever - 1, list(a, c), nil},
	} {
		state := rows.New()
		if x.ts != nil {
			state.Put("t", x.ts)
		}
		if x.ss != nil {
			state.Put("s", x.ss)
		}
		if got := s.AsOf(x.at); !got.Same(state) {
			t.Errorf("AsOf(%d) = %s, not %s", x.at, toldState(got), toldState(state))
		}
	}
	if got := s.Current(); !got.Same(s.AsOf(12)) {
		t.Errorf("Current = %s", toldState(got))
	}
	// What has ended at the last instant is not in force any more.
	ended := of(t, 5, version("t", a, 3, 5), version("t", b, 5, forever), version("t", c, 4, 5))
	if got := toldState(ended.Current()); got != fmt.Sprintf("%q %v; ", "t", list(b)) {
		t.Errorf("Current = %s", got)
	}
	if got := of(t, 5, version("t", a, 3, 5)).Current(); len(got.Names()) > 0 {
		t.Errorf("Current = %s", toldState(got))
	}
}

// Sys.To is a number, Forever too: behind it nothing is in force. No clock comes near it.
func TestP18_3AsOfForever(t *testing.T) {
	s := history(t)
	for _, at := range []int{forever, forever + 1, math.MaxInt} {
		if got := s.AsOf(at); got == nil || len(got.Names()) > 0 {
			t.Errorf("AsOf(%d) = %s", at, toldState(got))
		}
	}
	want(t, "During", s.During("t", api.Span{From: forever, To: math.MaxInt}), []api.Out(nil))
	if got := s.Between(12, forever); len(got) != 1 || len(got[0].Gone) != 2 || len(got[0].Come) > 0 {
		t.Errorf("Between = %v", got)
	}
}

func state(t *testing.T, names string, lists ...[]api.Row) *rows.State {
	t.Helper()
	s := rows.New()
	for i, name := range strings.Fields(names) {
		if e := s.Put(name, lists[i]); e != api.OK {
			t.Fatalf("Put(%q) = %d", name, e)
		}
	}
	return s
}

func TestP18_3Diff(t *testing.T) {
	a, b, c := row(0, 5, 1, 0), row(5, 9, 1, 1), row(0, 9, 2, 0)
	s := of(t, 9, version("t", c, 3, forever), version("t", a, 5, forever), version("t", b, 5, 9), version("s", a, 2, forever), version("u", a, 2, 3))
	for _, x := range []struct {
		t    *rows.State
		want []api.Change
	}{
		// The same, with a table without rows or not.
		{s.Current(), nil}, {state(t, "t s", list(c, a), list(a)), nil}, {state(t, "u t s x", nil, list(a, c), list(a), nil), nil},
		// nil has no tables.
		{nil, []api.Change{change("s", list(a), nil), change("t", list(a, c), nil)}}, {rows.New(), []api.Change{change("s", list(a), nil), change("t", list(a, c), nil)}}, {state(t, "t s", nil, nil), []api.Change{change("s", list(a), nil), change("t", list(a, c), nil)}},
		// Tables that are not in force.
		{state(t, "t s u", list(a, c), list(a), list(a)), []api.Change{change("u", nil, list(a))}}, {state(t, "t s S", list(a, c), list(a), list(c, b, a)), []api.Change{change("S", nil, list(a, b, c))}}, {state(t, "x s ä B", list(c), list(a), list(b), list(a)), []api.Change{change("B", nil, list(a)), change("t", list(a, c), nil), change("x", nil, list(c)), change("ä", nil, list(b))}},
		// Both ways.
		{state(t, "t s", list(b, c), list(a)), []api.Change{change("t", list(a), list(b))}}, {state(t, "t s", list(b), list(b)), []api.Change{change("s", list(a), list(b)), change("t", list(a, c), list(b))}}, {state(t, "t s", list(c), list(a)), []api.Change{change("t", list(a), nil)}},
		// The same at each point, but other rows.
		{state(t, "t s", list(row(0, 2, 1, 0), row(2, 5, 1, 0), c), list(a)), []api.Change{change("t", list(a), list(row(0, 2, 1, 0), row(2, 5, 1, 0)))}},
		// As often as it is there oftener; rows that are not right are told.
		{state(t, "t s", list(a, c, a), list(a, a, a)), []api.Change{change("s", nil, list(a, a)), change("t", nil, list(a))}}, {state(t, "t s", list(a, c, row(5, 5)), list(a)), []api.Change{change("t", nil, list(row(5, 5)))}},
	} {
		want(t, "Diff of "+toldState(x.t), s.Diff(x.t), x.want)
	}
}

func TestP18_3During(t *testing.T) {
	a, b, c := row(0, 5, 1, 0), row(5, 9, 1, 1), row(0, 9, 2, 0)
	s := history(t)
	for _, x := range []struct {
		name string
		w    api.Span
		want []api.Out
	}{
		// Without instants.
		{"t", api.Span{From: 5, To: 5}, nil}, {"t", api.Span{From: 6, To: 5}, nil}, {"t", api.Span{}, nil}, {"t", api.Span{From: math.MaxInt, To: math.MinInt}, nil}, {"t", api.Span{From: 12, To: 3}, nil},
		// All, and none.
		{"t", api.Span{From: 0, To: 20}, []api.Out{out(a, 3, 5), out(b, 5, 9), out(c, 5, 20), out(a, 9, 20)}}, {"t", api.Span{From: math.MinInt, To: math.MaxInt}, []api.Out{out(a, 3, 5), out(b, 5, 9), out(c, 5, forever), out(a, 9, forever)}}, {"t", api.Span{From: 0, To: 3}, nil}, {"t", api.Span{From: -9, To: 0}, nil}, {"t", api.Span{From: 1, To: forever}, []api.Out{out(a, 3, 5), out(b, 5, 9), out(c, 5, forever), out(a, 9, forever)}}, {"t", api.Span{From: 1, To: clock + 1}, []api.Out{out(a, 3, 5), out(b, 5, 9), out(c, 5, clock+1), out(a, 9, clock+1)}},
		// Cut at one end, at both, at none; by Sys.From as cut, then by row.
		{"t", api.Span{From: 0, To: 4}, []api.Out{out(a, 3, 4)}}, {"t", api.Span{From: 4, To: 5}, []api.Out{out(a, 4, 5)}}, {"t", api.Span{From: 4, To: 6}, []api.Out{out(a, 4, 5), out(b, 5, 6), out(c, 5, 6)}}, {"t", api.Span{From: 3, To: 5}, []api.Out{out(a, 3, 5)}}, {"t", api.Span{From: 8, To: 10}, []api.Out{out(b, 8, 9), out(c, 8, 10), out(a, 9, 10)}}, {"t", api.Span{From: 6, To: 7}, []api.Out{out(b, 6, 7), out(c, 6, 7)}}, {"t", api.Span{From: 10, To: 11}, []api.Out{out(a, 10, 11), out(c, 10, 11)}}, {"t", api.Span{From: 12, To: 13}, []api.Out{out(a, 12, 13), out(c, 12, 13)}},
		// One that ended, and began anew at that instant, is one; from there on, or up to there, too.
		{"t", api.Span{From: 6, To: 8}, []api.Out{out(b, 6, 8), out(c, 6, 8)}}, {"t", api.Span{From: 7, To: 8}, []api.Out{out(b, 7, 8), out(c, 7, 8)}}, {"t", api.Span{From: 5, To: 7}, []api.Out{out(b, 5, 7), out(c, 5, 7)}},
		// Other tables.
		{"s", api.Span{From: 0, To: 20}, []api.Out{out(a, 5, 9)}}, {"s", api.Span{From: 9, To: 20}, nil}, {"s", api.Span{From: 8, To: 20}, []api.Out{out(a, 8, 9)}}, {"", api.Span{From: 0, To: 20}, nil}, {"T", api.Span{From: 0, To: 20}, nil}, {"\xff", api.Span{From: 0, To: 20}, nil},
	} {
		want(t, fmt.Sprintf("During(%q, %v)", x.name, x.w), s.During(x.name, x.w), x.want)
	}
}

func TestP18_3DuringOfOneRow(t *testing.T) {
	r, other := row(0, 5, 2), row(0, 5, 1)
	// Thrice anew without a break, then with one; the other one lies between in the order of versions.
	s := of(t, 20, version("t", r, 2, 4), version("t", r, 4, 6), version("t", r, 6, 9), version("t", r, 10, forever), version("t", other, 2, 5), version("t", other, 6, 7), version("t", other, 5, 6), version("s", r, 9, 10))
	for _, x := range []struct {
		w    api.Span
		want []api.Out
	}{
		{api.Span{From: 0, To: 30}, []api.Out{out(other, 2, 7), out(r, 2, 9), out(r, 10, 30)}}, {api.Span{From: 3, To: 8}, []api.Out{out(other, 3, 7), out(r, 3, 8)}}, {api.Span{From: 5, To: 10}, []api.Out{out(other, 5, 7), out(r, 5, 9)}}, {api.Span{From: 8, To: 11}, []api.Out{out(r, 8, 9), out(r, 10, 11)}}, {api.Span{From: 9, To: 10}, nil}, {api.Span{From: 9, To: 11}, []api.Out{out(r, 10, 11)}},
	} {
		want(t, fmt.Sprintf("During(%v)", x.w), s.During("t", x.w), x.want)
	}
}

func TestP18_3VersionsInOrder(t *testing.T) {
	a, b := row(0, 5, 1), row(0, 5, 2)
	ordered := []api.Version{
		version("z", b, 1, 2), version("a", a, 1, 5), version("z", a, 1, 5), version("a", b, 2, 3), version("B", a, 3, 4), version("a", row(0, 6, 1), 3, 4), version("a", b, 3, 4), version("a", row(0, 5, "x"), 3, 4), version("ä", a, 3, 4), version("a", row(0, 5, 3), 3, 9), version("B", b, 3, forever), version("a", row(0, 4, 2), 3, forever), version("B", a, 4, 5), version("a", a, 7, 8), version("a", a, 9, forever),
	}
	for i := range ordered {
		turned := slices.Concat(ordered[i:], ordered[:i])
		want(t, "Versions", of(t, 10, turned...).Versions(), ordered)
		slices.Reverse(turned)
		want(t, "Versions", of(t, 10, turned...).Versions(), ordered)
	}
}

func TestP18_3Drop(t *testing.T) {
	a, b, c := row(0, 5, 1), row(0, 5, 2), row(0, 5, 3)
	l := []api.Version{version("t", a, 1, 3), version("s", b, 2, 5), version("t", b, 2, 6), version("t", c, 3, 5), version("t", a, 5, 9), version("t", b, 7, forever), version("s", b, 5, forever)}
	slices.SortFunc(l, versionOrder)
	for _, x := range []struct{ until, gone int }{
		{math.MinInt, 0}, {-1, 0}, {0, 0}, {2, 0}, {3, 1}, {4, 1}, {5, 3}, {6, 4}, {8, 4}, {9, 5}, {10, 5}, {clock, 5}, {forever - 1, 5},
		// Sys.To is a number, Forever too.
		{forever, 7}, {math.MaxInt, 7},
	} {
		s := of(t, 10, l...)
		if n := s.Drop(x.until); n != x.gone {
			t.Fatalf("Drop(%d) = %d, not %d", x.until, n, x.gone)
		}
		left := slices.DeleteFunc(slices.Clone(l), func(v api.Version) bool { return v.Sys.To <= x.until })
		want(t, fmt.Sprintf("Versions behind Drop(%d)", x.until), s.Versions(), left)
		if s.Last() != 10 || s.Drop(x.until) != 0 {
			t.Fatalf("Drop(%d) changes Last, or takes out twice", x.until)
		}
		if x.until < forever {
			// What is in force stays so, and can go.
			apply(t, s, 11, change("t", list(b), nil))
			refused(t, s, api.ErrNoent, 12, change("t", list(a), nil))
			apply(t, s, 12, change("t", nil, list(a)))
		} else {
			refused(t, s, api.ErrNoent, 11, change("t", list(b), nil))
		}
	}
}

func TestP18_7Between(t *testing.T) {
	a, b, c := row(0, 5, 1, 0), row(5, 9, 1, 1), row(0, 9, 2, 0)
	s := history(t)
	for _, x := range []struct {
		a, b int
		want []api.Change
	}{
		// One instant, or two between which nothing is another.
		{5, 5, nil}, {0, 0, nil}, {12, 12, nil}, {math.MinInt, 2, nil}, {3, 4, nil}, {9, clock, nil}, {6, 8, nil}, {5, 7, nil},
		{0, 3, []api.Change{change("t", nil, list(a))}}, {3, 5, []api.Change{change("s", nil, list(a)), change("t", list(a), list(b, c))}}, {4, 9, []api.Change{change("t", nil, list(c))}}, {8, 9, []api.Change{change("s", list(a), nil), change("t", list(b), list(a))}}, {0, 8, []api.Change{change("s", nil, list(a)), change("t", nil, list(b, c))}}, {3, 12, []api.Change{change("t", nil, list(c))}}, {math.MinInt, clock, []api.Change{change("t", nil, list(a, c))}},
	} {
		want(t, fmt.Sprintf("Between(%d, %d)", x.a, x.b), s.Between(x.a, x.b), x.want)
		// Turned, what comes goes.
		var turned []api.Change
		for _, y := range x.want {
			turned = append(turned, change(y.Table, y.Come, y.Gone))
		}
		want(t, fmt.Sprintf("Between(%d, %d)", x.b, x.a), s.Between(x.b, x.a), turned)
	}
	// Tables come in the order of their bytes.
	var l []api.Version
	for _, name := range []string{"ä", "b", "B", "ab", "a", "\xff", " "} {
		l = append(l, version(name, a, 2, 3))
	}
	var names []string
	for _, x := range of(t, 5, l...).Between(2, 3) {
		names = append(names, x.Table)
	}
	if !slices.Equal(names, []string{" ", "B", "a", "ab", "b", "ä", "\xff"}) {
		t.Errorf("the tables are %q", names)
	}
}

func TestP18_7Story(t *testing.T) {
	a, b, c := row(0, 5, 1, 0), row(5, 9, 1, 1), row(0, 9, 2, 0)
	s := history(t)
	apply(t, s, 13, change("t", nil, list(row(0, 5, "1", 0), row(0, 1, "", 0))))
	for _, x := range []struct {
		name string
		v    api.Value
		want []api.Version
	}{
		{"t", num(1), []api.Version{version("t", a, 3, 5), version("t", b, 5, 9), version("t", a, 9, forever)}}, {"t", num(2), []api.Version{version("t", c, 5, 7), version("t", c, 7, forever)}}, {"s", num(1), []api.Version{version("s", a, 5, 9)}}, {"s", num(2), nil}, {"t", num(0), nil}, {"t", num(3), nil}, {"", num(1), nil}, {"T", num(1), nil}, {"\xff", num(1), nil},
		// Values of another kind, or that are not right.
		{"t", str("1"), []api.Version{version("t", row(0, 5, "1", 0), 13, forever)}}, {"t", str(""), []api.Version{version("t", row(0, 1, "", 0), 13, forever)}}, {"t", str("2"), nil}, {"t", api.Value{}, nil}, {"t", api.Value{Num: 1}, nil}, {"t", api.Value{Kind: 9, Num: 1}, nil}, {"t", api.Value{Kind: api.Int, Num: 1, Str: "x"}, nil}, {"t", api.Value{Kind: api.Text, Num: 1, Str: "1"}, nil}, {"s", str("1"), nil},
	} {
		want(t, fmt.Sprintf("Story(%q, %v)", x.name, x.v), s.Story(x.name, x.v), x.want)
	}
}

func TestP18_7Instants(t *testing.T) {
	a, b := row(0, 5, 1), row(0, 5, 2)
	for _, x := range []struct {
		l    []api.Version
		want []int
	}{
		{nil, nil}, {[]api.Version{version("t", a, 3, 7)}, []int{3, 7}}, {[]api.Version{version("t", a, 3, forever)}, []int{3}}, {[]api.Version{version("t", a, 3, forever), version("t", b, 2, forever), version("s", b, 2, forever)}, []int{2, 3}}, {[]api.Version{version("t", a, 7, 9), version("t", b, 1, 10), version("t", a, 3, 7), version("s", a, 10, forever), version("t", a, 2, 3)}, []int{1, 2, 3, 7, 9, 10}},
	} {
		want(t, "Instants", of(t, 10, x.l...).Instants(), x.want)
	}
	// Those at which nothing changed are none.
	want(t, "Instants", history(t).Instants(), []int{3, 5, 7, 9})
}

func TestP1Nil(t *testing.T) {
	var s *vers.Store
	for _, at := range []int{math.MinInt, 0, 1, math.MaxInt} {
		if s.Apply(at, nil) != api.ErrNil || s.Apply(at, []api.Change{{}}) != api.ErrNil {
			t.Error("Apply of nil")
		}
		if s.AsOf(at) != nil || s.Drop(at) != 0 || len(s.Between(at, 5)) > 0 {
			t.Error("nil has something")
		}
	}
	if s.Current() != nil || s.Fork() != nil || s.Last() != 0 || len(s.Versions()) > 0 || len(s.Instants()) > 0 {
		t.Error("nil has something")
	}
	if len(s.Diff(nil)) > 0 || len(s.Diff(state(t, "t", list(row(0, 5, 1))))) > 0 || len(s.During("t", api.Span{From: 0, To: 9})) > 0 || len(s.Story("t", num(1))) > 0 {
		t.Error("nil has something")
	}
	if fork := vers.New().Fork(); fork == nil || fork.Last() != 0 {
		t.Error("a new store has no fork")
	}
}

func TestP1WrongInputs(t *testing.T) {
	numbers := []int{math.MinInt, math.MinInt + 1, -1, 0, 1, 3, 5, 12, clock, clock + 1, forever, math.MaxInt - 1, math.MaxInt}
	var l []api.Version
	for _, a := range numbers {
		for _, b := range numbers {
			l = append(l, version("t", row(0, 5, 1), a, b), version("\xff", row(a, b, "\xff"), 1, 2), version("t", row(a, b), a, b))
		}
	}
	for _, last := range numbers {
		for i := range l {
			s, e := vers.Of(last, l[i:i+1])
			if (s == nil) != (e != api.OK) || (e == api.OK) != (ofModel(last, l[i:i+1]) == api.OK) {
				t.Fatalf("Of(%d, %v) = %d", last, l[i], e)
			}
		}
		if s, e := vers.Of(last, l); s != nil || e == api.OK {
			t.Fatalf("Of(%d) of all = %d", last, e)
		}
	}
	s := history(t)
	for _, a := range numbers {
		for _, b := range numbers {
			w := api.Span{From: a, To: b}
			want(t, fmt.Sprint("During ", w), s.During("t", w), duringModel(s.Versions(), "t", w))
			s.Between(a, b)
			s.AsOf(a)
			s.Fork().Drop(b)
			s.Fork().Apply(a, []api.Change{change("\xff", list(row(a, b)), list(row(a, b, "\xff"))), {}})
		}
	}
}

func TestP1ManyVersionsAndChanges(t *testing.T) {
	l := numbered(100000)
	if _, e := vers.Of(10, l); e != api.ErrSpace {
		t.Errorf("Of many = %d", e)
	}
	s := vers.New()
	var changes []api.Change
	for i := range 20000 {
		changes = append(changes, change(fmt.Sprint(i), nil, nil))
	}
	apply(t, s, 1, changes...)
	refused(t, s, api.ErrForm, 2, append(changes, changes[7])...)
	var come []api.Row
	for i := range 20000 {
		come = append(come, row(0, 5, i))
	}
	refused(t, s, api.ErrSpace, 2, change("t", nil, come))
	refused(t, s, api.ErrExist, 2, change("t", nil, append(come, come[0])))
}

func scribbleRow(r api.Row) {
	for j := range r.Vals[:cap(r.Vals)] {
		r.Vals[:cap(r.Vals)][j] = str("scribble")
	}
}

// spare has spare room behind its end, and behind that of its values, with something in it.
func spare(l ...api.Row) []api.Row {
	all := make([]api.Row, 0, len(l)+2)
	for _, r := range l {
		vals := append(slices.Clone(r.Vals), num(501), str("spare"))
		all = append(all, api.Row{Vals: vals[:len(r.Vals)], Span: r.Span})
	}
	all = append(all, row(501, 502, 501), row(503, 504, "spare"))
	return all[:len(l)]
}

// toldRows has all spare room, too.
func toldRows(l []api.Row) string {
	text := ""
	for _, r := range l[:cap(l)] {
		text += fmt.Sprint(r.Span, r.Vals[:cap(r.Vals)], len(r.Vals), "; ")
	}
	return text
}

func scribble(l []api.Row) {
	for i, r := range l[:cap(l)] {
		scribbleRow(r)
		l[:cap(l)][i] = row(-77, 77, "scribble")
	}
}

func TestP3HandedIn(t *testing.T) {
	one := spare(row(0, 5, 2, 1), row(0, 5, 1, 1), row(5, 9, 1, 1))
	versions := append(make([]api.Version, 0, 5), version("t", one[0], 5, forever), version("t", one[1], 3, 4), version("t", one[2], 1, forever))
	ahead := toldRows(one) + fmt.Sprint(versions[:cap(versions)])
	s, e := vers.Of(6, versions)
	if e != api.OK || toldRows(one)+fmt.Sprint(versions[:cap(versions)]) != ahead {
		t.Errorf("Of = %d, and changes what is handed in", e)
	}
	kept := whole(s)
	scribble(one)
	clear(versions[:cap(versions)])
	want(t, "the store", whole(s), kept)

	gone, come := spare(row(0, 5, 2, 1)), spare(row(0, 5, 8), row(0, 5, 7))
	changes := append(make([]api.Change, 0, 4), change("t", gone, come))
	ahead = toldRows(gone) + toldRows(come) + fmt.Sprint(changes[:cap(changes)])
	apply(t, s, 7, changes...)
	if e := s.Apply(9, changes[:0]); e != api.OK {
		t.Errorf("Apply = %d", e)
	}
	if toldRows(gone)+toldRows(come)+fmt.Sprint(changes[:cap(changes)]) != ahead {
		t.Error("Apply changes what is handed in")
	}
	kept = whole(s)
	scribble(gone)
	scribble(come)
	clear(changes[:cap(changes)])
	want(t, "the store", whole(s), kept)

	// A state is handed in, too.
	target := state(t, "t u", spare(row(0, 5, 7), row(0, 5, 6)), list(row(0, 5, 1)))
	fork := target.Fork()
	for _, x := range s.Diff(target) {
		scribble(x.Gone)
		scribble(x.Come)
	}
	if !target.Same(fork) || whole(s) != kept {
		t.Error("Diff changes what is handed in, or answers of it")
	}
}

// answers are all rows that a store's calls answer, with a way to write over what was answered.
func answers(s *vers.Store) map[string]func() (rows []api.Row, over func()) {
	ofVersions := func(l []api.Version) ([]api.Row, func()) {
		var all []api.Row
		for _, v := range l {
			all = append(all, v.Row)
		}
		return all, func() { clear(l[:cap(l)]) }
	}
	ofChanges := func(l []api.Change) ([]api.Row, func()) {
		var all []api.Row
		for _, x := range l {
			all = append(append(all, x.Gone...), x.Come...)
		}
		return all, func() {
			for _, x := range l {
				scribble(x.Gone)
				scribble(x.Come)
			}
			clear(l[:cap(l)])
		}
	}
	return map[string]func() ([]api.Row, func()){
		"Versions": func() ([]api.Row, func()) { return ofVersions(s.Versions()) },
		"Story":    func() ([]api.Row, func()) { return ofVersions(s.Story("t", num(2))) },
		"Diff":     func() ([]api.Row, func()) { return ofChanges(s.Diff(nil)) },
		"Between":  func() ([]api.Row, func()) { return ofChanges(s.Between(4, 8)) },
		"Current": func() ([]api.Row, func()) {
			state := s.Current()
			return state.Get("t"), func() { state.Put("t", nil) }
		},
		"AsOf": func() ([]api.Row, func()) {
			state := s.AsOf(8)
			return state.Get("t"), func() { state.Put("t", list(row(0, 1, 77))) }
		},
		"During": func() ([]api.Row, func()) {
			var all []api.Row
			l := s.During("t", api.Span{From: 0, To: 99})
			for _, x := range l {
				all = append(all, api.Row{Vals: x.Vals, Span: x.Span})
			}
			return all, func() { clear(l[:cap(l)]) }
		},
		"Instants": func() ([]api.Row, func()) {
			l := s.Instants()
			return nil, func() { clear(l[:cap(l)]) }
		},
	}
}

func TestP3HandedOut(t *testing.T) {
	s := history(t)
	kept := whole(s)
	for name, call := range answers(s) {
		got, over := call()
		before := fmt.Sprint(got)
		for i, r := range got {
			others := fmt.Sprint(got[:i], got[i+1:])
			scribbleRow(r)
			if fmt.Sprint(got[:i], got[i+1:]) != others {
				t.Errorf("%s: row %d shares its values with another one", name, i)
			}
		}
		over()
		want(t, "the store, behind what "+name+" answers is written over,", whole(s), kept)
		again, _ := call()
		want(t, name+", again,", fmt.Sprint(again), before)
		if name != "Instants" && len(again) < 2 {
			t.Errorf("%s has only %v", name, again)
		}
	}
}

func TestP4Forks(t *testing.T) {
	r, other := row(0, 5, 1, 0), row(7, 8, 9)
	// Room may be left behind a list's end, which both would write to.
	for ended := range 9 {
		s := vers.New()
		for i := range ended {
			apply(t, s, 2*i+1, change("t", nil, list(r)))
			apply(t, s, 2*i+2, change("t", list(r), nil))
		}
		apply(t, s, 20, change("t", nil, list(r)))
		fork := s.Fork()
		ahead := whole(s)
		want(t, "the fork", whole(fork), ahead)
		apply(t, s, 21, change("t", list(r), list(other)))
		want(t, "the fork", whole(fork), ahead)
		mine := whole(s)
		apply(t, fork, 25, change("t", list(r), nil), change("s", nil, list(r)))
		want(t, "the store", whole(s), mine)
		theirs := whole(fork)
		if s.Drop(21) != ended+1 {
			t.Error("Drop")
		}
		want(t, "the fork", whole(fork), theirs)
		mine = whole(s)
		if fork.Drop(22) != ended {
			t.Error("Drop of the fork")
		}
		want(t, "the store", whole(s), mine)
		refused(t, fork, api.ErrNoent, 30, change("t", list(other), nil))
		apply(t, s, 30, change("t", list(other), nil))
	}
	a, b := vers.New(), vers.New()
	apply(t, a, 3, change("t", nil, list(r)))
	if b.Last() != 0 || len(b.Versions()) > 0 {
		t.Error("two new stores have one another's")
	}
}

func TestP6NothingIsKept(t *testing.T) {
	s := history(t)
	ahead := whole(s)
	for range 20 {
		o := history(t)
		o.Drop(9)
		o.Fork().Apply(20, nil)
		want(t, "the store", whole(s), ahead)
		want(t, "another one", whole(history(t)), ahead)
	}
}
