package past_test

import (
	"fmt"
	"math"
	"slices"
	"strings"
	"testing"

	"regesta/api"
	"regesta/past"
	"regesta/rows"
	"regesta/vers"
)

// The calls are those of the chapter.
var (
	_ func() *past.Past                                                  = past.New
	_ func(last, horizon int, l []api.Version) (*past.Past, api.Errno)   = past.Of
	_ func(*past.Past, int, []api.Change) api.Errno                      = (*past.Past).Apply
	_ func(*past.Past, *rows.State) []api.Change                         = (*past.Past).Diff
	_ func(*past.Past) int                                               = (*past.Past).Roll
	_ func(*past.Past, int) (int, api.Errno)                             = (*past.Past).Prune
	_ func(*past.Past, int) (*rows.State, api.Errno)                     = (*past.Past).AsOf
	_ func(*past.Past, string, api.Span) ([]api.Out, api.Errno)          = (*past.Past).During
	_ func(*past.Past) *rows.State                                       = (*past.Past).Current
	_ func(*past.Past) int                                               = (*past.Past).Horizon
	_ func(*past.Past) int                                               = (*past.Past).Last
	_ func(*past.Past) [][]api.Version                                   = (*past.Past).Parts
	_ func(*past.Past) []api.Version                                     = (*past.Past).Versions
	_ func(*past.Past) *past.Past                                        = (*past.Past).Fork
	_ func(p *past.Past, a, b int) ([]api.Change, api.Errno)             = (*past.Past).Between
	_ func(p *past.Past, name string, v api.Value) (story []api.Version) = (*past.Past).Story
	_ func(p *past.Past) (force int, loose int, laid int)                = (*past.Past).Stored
)

const (
	clock   = 1 << 30
	forever = 1 << 40
	most    = 6
)

func num(n int64) api.Value  { return api.Value{Kind: api.Int, Num: n} }
func str(s string) api.Value { return api.Value{Kind: api.Text, Str: s} }

// row has values of numbers, of texts, or as they are.
func row(from, to int, vals ...any) api.Row {
	r := api.Row{Span: api.Span{From: from, To: to}}
	for _, v := range vals {
		switch x := v.(type) {
		case int:
			r.Vals = append(r.Vals, num(int64(x)))
		case string:
			r.Vals = append(r.Vals, str(x))
		case api.Value:
			r.Vals = append(r.Vals, x)
		}
	}
	return r
}

func list(l ...api.Row) []api.Row { return l }

// numbered are the rows of the numbers from first on, up to end.
func numbered(first, end int) []api.Row {
	var l []api.Row
	for i := first; i < end; i++ {
		l = append(l, row(0, 5, i))
	}
	return l
}

func version(table string, r api.Row, from, to int) api.Version {
	return api.Version{Table: table, Row: r, Sys: api.Span{From: from, To: to}}
}

func change(table string, gone, come []api.Row) api.Change {
	return api.Change{Table: table, Gone: gone, Come: come}
}

func out(r api.Row, from, to int) api.Out {
	return api.Out{Vals: r.Vals, Span: r.Span, Sys: api.Span{From: from, To: to}}
}

func span(from, to int) api.Span { return api.Span{From: from, To: to} }

// told is a thing as a text; nil lists and empty ones are told alike.
func told(x any) string { return fmt.Sprintf("%v", x) }

// toldState has its tables, and their rows.
func toldState(s *rows.State) string {
	if s == nil {
		return "nil"
	}
	text := ""
	for _, name := range s.Names() {
		text += fmt.Sprintf("%q %v; ", name, s.Get(name))
	}
	return text
}

func stored(p *past.Past) string {
	force, loose, laid := p.Stored()
	return fmt.Sprint(force, loose, laid)
}

// whole is all that there is, as a text.
func whole(p *past.Past) string {
	return fmt.Sprint(p.Last(), p.Horizon(), p.Versions(), p.Parts(), stored(p))
}

func want(t *testing.T, call string, got, want any) {
	t.Helper()
	if told(got) != told(want) {
		t.Fatalf("%s = %v, not %v", call, got, want)
	}
}

func of(t *testing.T, last, horizon int, l ...api.Version) *past.Past {
	t.Helper()
	p, e := past.Of(last, horizon, l)
	if e != api.OK {
		t.Fatalf("Of(%d, %d, %v) = %d", last, horizon, l, e)
	}
	return p
}

func apply(t *testing.T, p *past.Past, at int, l ...api.Change) {
	t.Helper()
	if e := p.Apply(at, l); e != api.OK {
		t.Fatalf("Apply(%d, %v) = %d", at, l, e)
	}
	if p.Last() != at {
		t.Fatalf("behind Apply(%d) Last is %d", at, p.Last())
	}
}

// refused tells whether Apply answers the error, and changes nothing.
func refused(t *testing.T, p *past.Past, errno api.Errno, at int, l ...api.Change) {
	t.Helper()
	ahead := whole(p)
	if e := p.Apply(at, l); e != errno {
		t.Fatalf("Apply(%d, %v) = %d, not %d", at, l, e, errno)
	}
	want(t, "the past behind a refusal", whole(p), ahead)
}

func roll(t *testing.T, p *past.Past, n int) {
	t.Helper()
	if got := p.Roll(); got != n {
		t.Fatalf("Roll = %d, not %d", got, n)
	}
}

// prune asks for one that raises the horizon.
func prune(t *testing.T, p *past.Past, h, n int) {
	t.Helper()
	got, e := p.Prune(h)
	if got != n || e != api.OK || p.Horizon() != h {
		t.Fatalf("Prune(%d) = %d, %d, not %d; the horizon is %d", h, got, e, n, p.Horizon())
	}
}

// idle asks for one that changes nothing.
func idle(t *testing.T, p *past.Past, h int, errno api.Errno) {
	t.Helper()
	ahead := whole(p)
	if got, e := p.Prune(h); got != 0 || e != errno {
		t.Fatalf("Prune(%d) = %d, %d, not %d", h, got, e, errno)
	}
	want(t, fmt.Sprintf("the past behind Prune(%d)", h), whole(p), ahead)
}

func lengths(p *past.Past) []int {
	var l []int
	for _, part := range p.Parts() {
		l = append(l, len(part))
	}
	return l
}

func ended(l []api.Version) []api.Version {
	return slices.DeleteFunc(slices.Clone(l), func(v api.Version) bool { return v.Sys.To == forever })
}

func TestP19_1New(t *testing.T) {
	p := past.New()
	if p == nil || p.Last() != 0 || p.Horizon() != 0 || len(p.Versions()) > 0 || len(p.Parts()) > 0 || stored(p) != "0 0 0" || len(p.Story("t", num(1))) > 0 || p.Current() == nil || len(p.Current().Names()) > 0 || len(p.Diff(rows.New())) > 0 {
		t.Error("a new past has something")
	}
	roll(t, p, 0)
	idle(t, p, 0, api.OK)
	idle(t, p, -1, api.OK)
	idle(t, p, 1, api.ErrRange)
	if s, e := p.AsOf(0); e != api.OK || s == nil || len(s.Names()) > 0 {
		t.Errorf("AsOf(0) = %s, %d", toldState(s), e)
	}
	if s, e := p.AsOf(-1); e != api.ErrPruned || s != nil {
		t.Errorf("AsOf(-1) = %s, %d", toldState(s), e)
	}
	apply(t, p, 1, change("t", nil, list(row(0, 5, 1))))
	want(t, "Versions", p.Versions(), []api.Version{version("t", row(0, 5, 1), 1, forever)})
}

func TestP19_1OfHorizon(t *testing.T) {
	for _, x := range []struct {
		last, horizon int
		errno         api.Errno
	}{
		{5, math.MinInt, api.ErrRange}, {5, -1, api.ErrRange}, {5, 0, api.OK}, {5, 4, api.OK}, {5, 5, api.OK}, {5, 6, api.ErrRange}, {5, clock, api.ErrRange}, {5, math.MaxInt, api.ErrRange},
		{0, 0, api.OK}, {0, 1, api.ErrRange}, {0, -1, api.ErrRange}, {-1, -1, api.ErrRange}, {-1, 0, api.ErrRange}, {-2, -1, api.ErrRange}, {math.MinInt, math.MinInt, api.ErrRange}, {math.MinInt, 0, api.ErrRange},
		{clock, 0, api.OK}, {clock, clock, api.OK}, {clock, clock + 1, api.ErrRange},
		// vers refuses these instants.
		{clock + 1, 0, api.ErrRange}, {clock + 1, clock + 1, api.ErrRange}, {forever, 5, api.ErrRange}, {math.MaxInt, math.MaxInt, api.ErrRange}, {math.MaxInt, 0, api.ErrRange},
	} {
		p, e := past.Of(x.last, x.horizon, nil)
		if e != x.errno || (p == nil) != (e != api.OK) {
			t.Fatalf("Of(%d, %d) = %v, %d", x.last, x.horizon, p, e)
		}
		if p != nil && (p.Last() != x.last || p.Horizon() != x.horizon || len(p.Versions()) > 0 || len(p.Parts()) > 0) {
			t.Errorf("Of(%d, %d) has %s", x.last, x.horizon, whole(p))
		}
		// The horizon is asked first, a version that can't be later.
		if _, e := past.Of(x.last, x.horizon, []api.Version{{}}); x.errno == api.ErrRange && e != api.ErrRange || x.errno == api.OK && e != api.ErrForm {
			t.Errorf("Of(%d, %d) of a wrong version = %d", x.last, x.horizon, e)
		}
	}
}

func TestP19_1OfErrorsOfVers(t *testing.T) {
	r := row(0, 5, 1)
	var many []api.Version
	for i := range 61 {
		many = append(many, version("t", row(0, 5, i), 1, 9))
	}
	for _, x := range []struct {
		l     []api.Version
		errno api.Errno
	}{
		{[]api.Version{version("", r, 3, 9)}, api.ErrForm}, {[]api.Version{version("t", row(5, 5, 1), 3, 9)}, api.ErrForm}, {[]api.Version{version("t", row(0, 5), 3, 9)}, api.ErrForm}, {[]api.Version{version("t", row(0, 5, "\xff"), 3, 9)}, api.ErrForm}, {[]api.Version{version("t", r, 0, 9)}, api.ErrForm}, {[]api.Version{version("t", r, 9, 9)}, api.ErrForm}, {[]api.Version{version("t", r, 3, 11)}, api.ErrForm}, {[]api.Version{version("t", r, 11, forever)}, api.ErrForm}, {[]api.Version{version("t", r, 3, forever+1)}, api.ErrForm},
		{[]api.Version{version("t", r, 3, 9), version("t", r, 8, forever)}, api.ErrExist}, {[]api.Version{version("t", r, 3, 9), version("t", r, 3, 9)}, api.ErrExist},
		{many, api.ErrSpace}, {append(many[:61:61], version("t", row(0, 5, 0), 2, 3)), api.ErrExist}, {append(many[:61:61], api.Version{}), api.ErrForm},
		{many[:60], api.OK}, {[]api.Version{version("t", r, 3, 9), version("t", r, 9, forever)}, api.OK},
	} {
		// Behind what is wrong with the horizon, ahead of what ended until then.
		for horizon, errno := range map[int]api.Errno{-1: api.ErrRange, 0: x.errno, 8: x.errno, 11: api.ErrRange} {
			if p, e := past.Of(10, horizon, x.l); e != errno || (p == nil) != (e != api.OK) {
				t.Errorf("Of(10, %d) of %d versions = %v, %d, not %d", horizon, len(x.l), p, e, errno)
			}
		}
		errno := x.errno
		if errno == api.OK {
			errno = api.ErrForm
		}
		for _, horizon := range []int{9, 10} {
			if p, e := past.Of(10, horizon, x.l); p != nil || e != errno {
				t.Errorf("Of(10, %d) of %d versions = %v, %d, not %d", horizon, len(x.l), p, e, errno)
			}
		}
		if _, e := past.Of(clock+1, 9, x.l); e != api.ErrRange {
			t.Errorf("Of behind the last instant = %d", e)
		}
	}
}

func TestP19_1OfWhatEndedUntilTheHorizon(t *testing.T) {
	one, open, late := version("t", row(0, 5, 1), 3, 7), version("t", row(0, 5, 2), 2, forever), version("s", row(0, 5, 1), 9, 10)
	for horizon := range 11 {
		errno := api.OK
		if horizon >= 7 {
			errno = api.ErrForm
		}
		for _, l := range [][]api.Version{{one}, {one, open}, {open, one}} {
			p, e := past.Of(10, horizon, l)
			if e != errno || (p == nil) != (e != api.OK) {
				t.Fatalf("Of(10, %d, %v) = %v, %d, not %d", horizon, l, p, e, errno)
			}
			if e == api.OK {
				want(t, "stored", stored(p), fmt.Sprint(len(l)-1, 1, 0))
			}
		}
		if _, e := past.Of(10, horizon, []api.Version{late, open, one}); horizon < 10 && e != errno || horizon == 10 && e != api.ErrForm {
			t.Fatalf("Of(10, %d) of three = %d", horizon, e)
		}
		// One that has not ended may begin anywhere.
		for from := 1; from <= 10; from++ {
			p := of(t, 10, horizon, version("t", row(0, 5, 1), from, forever))
			want(t, "stored", stored(p), "1 0 0")
		}
	}
	// Just behind the horizon, where the clock ends.
	of(t, clock, clock-1, version("t", row(0, 5, 1), 3, clock))
	if _, e := past.Of(clock, clock, []api.Version{version("t", row(0, 5, 1), 3, clock)}); e != api.ErrForm {
		t.Errorf("Of = %d", e)
	}
}

func TestP19_1OfLeavesThemLoose(t *testing.T) {
	var l []api.Version
	for i := range 20 {
		l = append(l, version("t", row(0, 5, 19-i), 1+i%4, []int{forever, 6, 7, 8}[i%4]))
	}
	p := of(t, 9, 5, l...)
	s, e := vers.Of(9, l)
	if e != api.OK {
		t.Fatal(e)
	}
	want(t, "Versions", p.Versions(), s.Versions())
	want(t, "Parts", p.Parts(), "[]")
	want(t, "stored", stored(p), "5 15 0")
	roll(t, p, 15)
	want(t, "stored", stored(p), "5 0 15")
	want(t, "the lengths", lengths(p), []int{6, 6, 3})
}

func TestP19_1Example(t *testing.T) {
	p := of(t, 9, 0, version("t", row(0, 5, 1), 3, 7))
	if s, e := p.AsOf(6); e != api.OK || len(s.Get("t")) != 1 {
		t.Errorf("AsOf(6) = %s, %d", toldState(s), e)
	}
	prune(t, p, 7, 1)
	want(t, "Versions", p.Versions(), "[]")
	if s, e := p.AsOf(6); e != api.ErrPruned || s != nil {
		t.Errorf("AsOf(6) = %s, %d", toldState(s), e)
	}
	if s, e := p.AsOf(7); e != api.OK || len(s.Names()) > 0 {
		t.Errorf("AsOf(7) = %s, %d", toldState(s), e)
	}
}

func TestP19_1RollHowMany(t *testing.T) {
	for _, x := range []struct {
		n       int
		lengths []int
	}{{0, nil}, {1, []int{1}}, {2, []int{2}}, {most - 1, []int{5}}, {most, []int{6}}, {most + 1, []int{6, 1}}, {2*most - 1, []int{6, 5}}, {2 * most, []int{6, 6}}, {2*most + 1, []int{6, 6, 1}}, {28, []int{6, 6, 6, 6, 4}}} {
		p := past.New()
		apply(t, p, 1, change("t", nil, numbered(0, x.n)), change("s", nil, numbered(0, 2)))
		// What is in force is not laid.
		roll(t, p, 0)
		want(t, "Parts", p.Parts(), "[]")
		apply(t, p, 2, change("t", numbered(0, x.n), nil))
		want(t, "Parts", p.Parts(), "[]")
		want(t, "stored", stored(p), fmt.Sprint(2, x.n, 0))
		roll(t, p, x.n)
		want(t, "the lengths", lengths(p), x.lengths)
		want(t, "stored", stored(p), fmt.Sprint(2, 0, x.n))
		// Twice in a row.
		ahead := whole(p)
		roll(t, p, 0)
		want(t, "the past behind a second Roll", whole(p), ahead)
	}
	p := of(t, 9, 0)
	for i := range 60 {
		apply(t, p, 10+2*i, change("t", nil, list(row(0, 5, i))))
		apply(t, p, 11+2*i, change("t", list(row(0, 5, i)), nil))
	}
	roll(t, p, 60)
	want(t, "the lengths", lengths(p), []int{6, 6, 6, 6, 6, 6, 6, 6, 6, 6})
}

func TestP19_1RollInOrder(t *testing.T) {
	a, b := row(0, 5, 1), row(0, 5, 2)
	ordered := []api.Version{
		version("t", b, 2, 3),
		version("B", a, 1, 5), version("t", row(0, 4, 1), 1, 5), version("t", a, 1, 5), version("t", row(1, 5, 1), 1, 5), version("t", row(0, 5, 1, 0), 1, 5),
		version("t", row(0, 5, "1"), 1, 5), version("ä", a, 1, 5), version("t", a, 5, 6), version("s", b, 1, 7), version("s", a, 2, 7), version("t", b, 6, 7),
		version("t", a, 6, 10),
	}
	open := []api.Version{version("t", a, 10, forever), version("s", a, 7, forever)}
	for i := range ordered {
		turned := slices.Concat(ordered[i:], open, ordered[:i])
		for range 2 {
			p := of(t, 10, 0, turned...)
			roll(t, p, 13)
			want(t, "Parts", p.Parts(), [][]api.Version{ordered[:6], ordered[6:12], ordered[12:]})
			slices.Reverse(turned)
		}
	}
}

// New ones are laid behind those that there are, though these are not full.
func TestP19_1RollAgain(t *testing.T) {
	p := past.New()
	all := numbered(0, 30)
	apply(t, p, 1, change("t", nil, all))
	var wanted [][]api.Version
	lay := func(at, first int, lengths ...int) {
		t.Helper()
		n := 0
		for _, length := range lengths {
			var part []api.Version
			for _, r := range all[first+n : first+n+length] {
				part = append(part, version("t", r, 1, at))
			}
			wanted = append(wanted, part)
			n += length
		}
		gone := slices.Clone(all[first : first+n])
		slices.Reverse(gone)
		apply(t, p, at, change("t", gone, nil))
		want(t, "Parts ahead of Roll", p.Parts(), wanted[:len(wanted)-len(lengths)])
		roll(t, p, n)
		want(t, "Parts", p.Parts(), wanted)
		roll(t, p, 0)
		want(t, "Parts", p.Parts(), wanted)
	}
	lay(2, 27, 2)
	lay(3, 0, 1)
	lay(5, 1, 6, 1)
	lay(6, 8, 6, 6)
	lay(9, 20, 5)
	want(t, "stored", stored(p), "3 0 27")
	// Several commits, one Roll: by the instant of the end.
	apply(t, p, 10, change("t", list(all[29]), nil), change("s", nil, list(all[0])))
	apply(t, p, 11, change("t", list(all[25]), nil), change("s", list(all[0]), nil))
	apply(t, p, 12, change("t", list(all[26]), nil))
	roll(t, p, 4)
	wanted = append(wanted, []api.Version{version("t", all[29], 1, 10), version("t", all[25], 1, 11), version("s", all[0], 10, 11), version("t", all[26], 1, 12)})
	want(t, "Parts", p.Parts(), wanted)
}

// Of one row, many versions: each is laid once.
func TestP19_1RollOfOneRow(t *testing.T) {
	p, r := past.New(), row(0, 5, 1)
	apply(t, p, 1, change("t", nil, list(r)), change("s", nil, list(r)))
	var l []api.Version
	for i := 2; i <= 9; i++ {
		apply(t, p, i, change("t", list(r), list(r)))
		l = append(l, version("t", r, i-1, i))
		if i == 4 {
			roll(t, p, 3)
		}
	}
	roll(t, p, 5)
	want(t, "Parts", p.Parts(), [][]api.Version{l[:3], l[3:]})
	apply(t, p, 10, change("s", list(r), nil))
	roll(t, p, 1)
	want(t, "Parts", p.Parts(), [][]api.Version{l[:3], l[3:], {version("s", r, 1, 10)}})
}

// history has nine versions that ended at 2 up to 10, and two in force.
func history(t *testing.T) *past.Past {
	t.Helper()
	p := past.New()
	apply(t, p, 1, change("t", nil, numbered(0, 10)), change("s", nil, list(row(0, 5, 1))))
	for i := range 9 {
		apply(t, p, 2+i, change("t", list(row(0, 5, 8-i)), nil))
	}
	return p
}

func TestP19_1PruneHowMany(t *testing.T) {
	for h := 1; h <= 10; h++ {
		loose := history(t)
		prune(t, loose, h, h-1)
		want(t, "stored", stored(loose), fmt.Sprint(2, 10-h, 0))

		// In partitions of 6 and 3: part of one, one whole, and part of the other one.
		laid := history(t)
		roll(t, laid, 9)
		prune(t, laid, h, h-1)
		want(t, "stored", stored(laid), fmt.Sprint(2, 0, 10-h))
		lengthsLeft := map[bool][]int{true: {7 - h, 3}, false: {10 - h}}[h < 7]
		if h == 10 {
			lengthsLeft = nil
		}
		want(t, fmt.Sprintf("the lengths behind Prune(%d)", h), lengths(laid), lengthsLeft)
		want(t, "Versions", laid.Versions(), loose.Versions())
		if len(laid.Parts()) > 0 {
			want(t, "the first one left", laid.Parts()[0][0], version("t", row(0, 5, 9-h), 1, h+1))
		}
		for _, v := range laid.Versions() {
			if v.Sys.To <= h {
				t.Errorf("behind Prune(%d) there is %v", h, v)
			}
		}
	}
}

func TestP19_1PruneErrors(t *testing.T) {
	for _, ahead := range []int{0, 4} {
		p := history(t)
		roll(t, p, 9)
		apply(t, p, 12)
		if ahead > 0 {
			prune(t, p, ahead, ahead-1)
		}
		// Above Last.
		for _, h := range []int{13, 14, clock, clock + 1, forever, math.MaxInt} {
			idle(t, p, h, api.ErrRange)
		}
		// At the horizon, and below it.
		for _, h := range []int{ahead, ahead - 1, 0, -1, math.MinInt} {
			idle(t, p, h, api.OK)
		}
		// At Last, though nothing ended there.
		prune(t, p, 12, 9-max(0, ahead-1))
		idle(t, p, 12, api.OK)
		idle(t, p, 11, api.OK)
		idle(t, p, 13, api.ErrRange)
		apply(t, p, 13, change("t", list(row(0, 5, 9)), nil))
		prune(t, p, 13, 1)
		want(t, "Versions", p.Versions(), []api.Version{version("s", row(0, 5, 1), 1, forever)})
	}
	// Where the clock ends.
	p := past.New()
	apply(t, p, clock-1, change("t", nil, numbered(0, 2)))
	apply(t, p, clock, change("t", numbered(0, 1), nil))
	idle(t, p, clock+1, api.ErrRange)
	prune(t, p, clock, 1)
	want(t, "Versions", p.Versions(), []api.Version{version("t", row(0, 5, 1), clock-1, forever)})
	if s, e := p.AsOf(clock); e != api.OK || len(s.Get("t")) != 1 {
		t.Errorf("AsOf = %s, %d", toldState(s), e)
	}
}

// Step by step it comes to the same, the horizon rises, and what is laid lies still.
func TestP19_1PruneStepByStep(t *testing.T) {
	p := history(t)
	roll(t, p, 9)
	first, second := p.Parts()[0], p.Parts()[1]
	for h := 1; h <= 10; h++ {
		n := 1
		if h == 1 {
			n = 0
		}
		prune(t, p, h, n)
		left := [][]api.Version{first[min(h-1, 6):], second[max(0, h-7):]}
		left = slices.DeleteFunc(left, func(part []api.Version) bool { return len(part) == 0 })
		want(t, "Parts", p.Parts(), left)
	}
	// What is laid behind that is laid behind what is left.
	p = history(t)
	roll(t, p, 9)
	prune(t, p, 8, 7)
	apply(t, p, 11, change("t", numbered(9, 10), nil))
	roll(t, p, 1)
	want(t, "Parts", p.Parts(), [][]api.Version{second[1:], {version("t", row(0, 5, 9), 1, 11)}})
	apply(t, p, 12, change("s", list(row(0, 5, 1)), numbered(0, 8)))
	apply(t, p, 13, change("s", numbered(0, 8), nil))
	prune(t, p, 11, 3)
	roll(t, p, 9)
	want(t, "the lengths", lengths(p), []int{6, 3})
	prune(t, p, 12, 1)
	want(t, "the lengths", lengths(p), []int{5, 3})
}

func TestP19_1PruneOfLooseAndLaid(t *testing.T) {
	p := past.New()
	apply(t, p, 1, change("t", nil, numbered(0, 12)))
	apply(t, p, 3, change("t", numbered(0, 3), nil))
	apply(t, p, 4, change("t", numbered(3, 5), nil))
	roll(t, p, 5)
	apply(t, p, 6, change("t", numbered(5, 8), nil))
	apply(t, p, 7, change("t", numbered(8, 9), nil))
	want(t, "stored", stored(p), "3 4 5")
	prune(t, p, 3, 3)
	want(t, "stored", stored(p), "3 4 2")
	prune(t, p, 5, 2)
	want(t, "stored", stored(p), "3 4 0")
	want(t, "Parts", p.Parts(), "[]")
	prune(t, p, 6, 3)
	want(t, "stored", stored(p), "3 1 0")
	roll(t, p, 1)
	want(t, "stored", stored(p), "3 0 1")
	want(t, "Parts", p.Parts(), [][]api.Version{{version("t", row(0, 5, 8), 1, 7)}})
	q := past.New()
	apply(t, q, 1, change("t", nil, numbered(0, 4)))
	apply(t, q, 2, change("t", numbered(0, 1), nil))
	roll(t, q, 1)
	apply(t, q, 3, change("t", numbered(1, 3), nil))
	prune(t, q, 3, 3)
	want(t, "stored", stored(q), "1 0 0")
}

func TestP19_1ApplyIsThatOfVers(t *testing.T) {
	r, other := row(0, 5, 1), row(0, 5, 2)
	p := of(t, 5, 4, version("t", r, 3, forever), version("t", other, 2, 5))
	for range 2 {
		for _, at := range []int{math.MinInt, -1, 0, 4, 5, clock + 1, math.MaxInt} {
			refused(t, p, api.ErrRange, at, change("", nil, nil))
		}
		refused(t, p, api.ErrForm, 6, change("", nil, nil))
		refused(t, p, api.ErrForm, 6, change("t", nil, nil), change("t", nil, nil))
		refused(t, p, api.ErrForm, 6, change("t", list(other), list(row(5, 5, 1))))
		refused(t, p, api.ErrNoent, 6, change("t", list(other), list(r)))
		refused(t, p, api.ErrNoent, 6, change("t", list(r, r), nil))
		refused(t, p, api.ErrExist, 6, change("t", nil, list(r)))
		refused(t, p, api.ErrExist, 6, change("t", list(r), list(r, r)))
		p.Roll()
	}
	prune(t, p, 5, 1)
	// Behind Roll and Prune rows come, go, and come again as ever.
	refused(t, p, api.ErrNoent, 6, change("t", list(other), nil))
	apply(t, p, 6, change("t", list(r), list(r, other)))
	roll(t, p, 1)
	prune(t, p, 6, 1)
	refused(t, p, api.ErrExist, 7, change("t", nil, list(r)))
	apply(t, p, 7, change("t", list(r), nil))
	apply(t, p, 8, change("t", nil, list(r)))
	want(t, "Versions", p.Versions(), []api.Version{version("t", r, 6, 7), version("t", other, 6, forever), version("t", r, 8, forever)})
	apply(t, p, clock, change("t", list(other), nil))
	refused(t, p, api.ErrRange, clock+1)
}

// What is pruned makes room, what is laid does not.
func TestP19_1ApplyMaxVersions(t *testing.T) {
	p := past.New()
	apply(t, p, 1, change("t", nil, numbered(0, 58)))
	apply(t, p, 2, change("t", numbered(0, 5), numbered(60, 62)))
	refused(t, p, api.ErrSpace, 3, change("t", nil, numbered(70, 71)))
	roll(t, p, 5)
	refused(t, p, api.ErrSpace, 3, change("t", nil, numbered(70, 71)))
	prune(t, p, 2, 5)
	refused(t, p, api.ErrSpace, 3, change("t", nil, numbered(70, 76)))
	apply(t, p, 3, change("t", nil, numbered(70, 75)))
	refused(t, p, api.ErrSpace, 4, change("t", nil, numbered(80, 81)))
	want(t, "stored", stored(p), "60 0 0")
}

func state(t *testing.T, names string, lists ...[]api.Row) *rows.State {
	t.Helper()
	s := rows.New()
	for i, name := range strings.Fields(names) {
		if e := s.Put(name, lists[i]); e != api.OK {
			t.Fatalf("Put(%q) = %d", name, e)
		}
	}
	return s
}

func TestP19_1DiffCurrentAndLast(t *testing.T) {
	a, b, c := row(0, 5, 1, 0), row(5, 9, 1, 1), row(0, 9, 2, 0)
	p := of(t, 9, 1, version("t", c, 3, forever), version("t", a, 5, forever), version("t", b, 5, 9), version("s", a, 2, forever), version("u", a, 2, 3))
	look := func(when string) {
		t.Helper()
		if p.Last() != 9 || !p.Current().Same(state(t, "t s", list(a, c), list(a))) {
			t.Errorf("%s: at %d there is %s", when, p.Last(), toldState(p.Current()))
		}
		want(t, "Diff "+when, p.Diff(state(t, "x s t", list(c), list(a), list(b, c))), []api.Change{change("t", list(a), list(b)), change("x", nil, list(c))})
		want(t, "Diff "+when, p.Diff(nil), []api.Change{change("s", list(a), nil), change("t", list(a, c), nil)})
		want(t, "Diff "+when, p.Diff(p.Current()), "[]")
	}
	look("at first")
	roll(t, p, 2)
	look("behind Roll")
	prune(t, p, 5, 1)
	look("behind Prune")
	prune(t, p, 9, 1)
	look("behind Prune at Last")
	// Apply of Diff makes the state.
	next := state(t, "x t", list(c, b), list(b))
	apply(t, p, 10, p.Diff(next)...)
	if !p.Current().Same(next) || len(p.Diff(next)) > 0 {
		t.Errorf("behind Apply of Diff there is %s", toldState(p.Current()))
	}
}

func TestP19_2AsOf(t *testing.T) {
	p := history(t)
	for round, h := range []int{0, 4, 10} {
		if h > 0 {
			prune(t, p, h, []int{0, 3, 6}[round])
		}
		for _, at := range []int{math.MinInt, -1, 0, 1, 3, 4, 5, 9, 10, 11, clock - 1, clock, clock + 1, forever, math.MaxInt} {
			s, e := p.AsOf(at)
			switch {
			case at < h || at < 0:
				want(t, fmt.Sprintf("AsOf(%d)", at), e, api.ErrPruned)
			case at > clock:
				want(t, fmt.Sprintf("AsOf(%d)", at), e, api.ErrRange)
			default:
				want(t, fmt.Sprintf("AsOf(%d)", at), e, api.OK)
			}
			if (s == nil) != (e != api.OK) {
				t.Fatalf("AsOf(%d) = %s, %d", at, toldState(s), e)
			}
			if e != api.OK {
				continue
			}
			inForce := min(10, max(1, 11-at))
			if at == 0 {
				inForce = 0
			}
			if len(s.Get("t")) != inForce || len(s.Get("s")) != min(1, at) {
				t.Errorf("AsOf(%d) behind Prune(%d) = %s", at, h, toldState(s))
			}
		}
	}
	// Where horizon and clock meet, what is behind is out of range, what is ahead forgotten.
	last := of(t, clock, clock)
	for at, errno := range map[int]api.Errno{clock - 1: api.ErrPruned, clock: api.OK, clock + 1: api.ErrRange} {
		if _, e := last.AsOf(at); e != errno {
			t.Errorf("AsOf(%d) = %d, not %d", at, e, errno)
		}
	}
}

func TestP19_2During(t *testing.T) {
	a, b, c := row(0, 5, 1, 0), row(5, 9, 1, 1), row(0, 9, 2, 0)
	p := of(t, 12, 4, version("t", a, 3, 5), version("t", b, 5, 9), version("t", c, 5, 7), version("t", c, 7, forever), version("t", a, 9, forever), version("s", a, 5, 9))
	for range 2 {
		for _, x := range []struct {
			name  string
			w     api.Span
			errno api.Errno
			want  []api.Out
		}{
			// Without instants, wherever.
			{"t", span(5, 5), api.ErrPeriod, nil}, {"t", span(6, 5), api.ErrPeriod, nil}, {"t", span(0, 0), api.ErrPeriod, nil}, {"t", span(3, 3), api.ErrPeriod, nil}, {"t", span(clock+2, clock+2), api.ErrPeriod, nil}, {"t", span(clock+9, 0), api.ErrPeriod, nil}, {"t", span(math.MaxInt, math.MinInt), api.ErrPeriod, nil}, {"t", span(math.MinInt, math.MinInt), api.ErrPeriod, nil}, {"t", span(math.MaxInt, math.MaxInt), api.ErrPeriod, nil},
			// Ahead of the horizon, wherever it ends.
			{"t", span(3, 4), api.ErrPruned, nil}, {"t", span(3, 9), api.ErrPruned, nil}, {"t", span(0, 1), api.ErrPruned, nil}, {"t", span(-1, 5), api.ErrPruned, nil}, {"t", span(3, clock+2), api.ErrPruned, nil}, {"t", span(math.MinInt, math.MaxInt), api.ErrPruned, nil}, {"", span(3, 9), api.ErrPruned, nil},
			// Behind what the clock can be.
			{"t", span(4, clock+2), api.ErrRange, nil}, {"t", span(4, forever), api.ErrRange, nil}, {"t", span(4, math.MaxInt), api.ErrRange, nil}, {"t", span(clock+1, clock+2), api.ErrRange, nil}, {"t", span(forever, math.MaxInt), api.ErrRange, nil}, {"", span(4, clock+2), api.ErrRange, nil},
			// At the horizon, and up to the end of the clock.
			{"t", span(4, 5), api.OK, []api.Out{out(a, 4, 5)}}, {"t", span(4, clock+1), api.OK, []api.Out{out(a, 4, 5), out(b, 5, 9), out(c, 5, clock+1), out(a, 9, clock+1)}}, {"t", span(clock, clock+1), api.OK, []api.Out{out(a, clock, clock+1), out(c, clock, clock+1)}}, {"t", span(4, clock), api.OK, []api.Out{out(a, 4, 5), out(b, 5, 9), out(c, 5, clock), out(a, 9, clock)}},
			{"t", span(6, 8), api.OK, []api.Out{out(b, 6, 8), out(c, 6, 8)}}, {"t", span(8, 10), api.OK, []api.Out{out(b, 8, 9), out(c, 8, 10), out(a, 9, 10)}}, {"s", span(8, 10), api.OK, []api.Out{out(a, 8, 9)}}, {"s", span(4, 5), api.OK, nil}, {"", span(4, 12), api.OK, nil}, {"\xff", span(4, 12), api.OK, nil},
		} {
			got, e := p.During(x.name, x.w)
			if e != x.errno {
				t.Fatalf("During(%q, %v) = %d, not %d", x.name, x.w, e, x.errno)
			}
			want(t, fmt.Sprintf("During(%q, %v)", x.name, x.w), got, x.want)
		}
		p.Roll()
	}
	prune(t, p, 7, 2)
	for w, errno := range map[api.Span]api.Errno{span(6, 7): api.ErrPruned, span(6, 8): api.ErrPruned, span(4, 5): api.ErrPruned, span(7, 8): api.OK, span(7, 7): api.ErrPeriod} {
		if _, e := p.During("t", w); e != errno {
			t.Errorf("During(%v) = %d, not %d", w, e, errno)
		}
	}
	got, _ := p.During("t", span(7, 8))
	want(t, "During at the horizon", got, []api.Out{out(b, 7, 8), out(c, 7, 8)})
}

func TestP19_6Between(t *testing.T) {
	p := history(t)
	roll(t, p, 9)
	prune(t, p, 4, 3)
	inside, ahead, behind := []int{4, 5, 9, 10, 11, clock - 1, clock}, []int{math.MinInt, -1, 0, 1, 3}, []int{clock + 1, forever, math.MaxInt}
	all := slices.Concat(inside, ahead, behind)
	for _, a := range all {
		for _, b := range all {
			errno := api.OK
			if slices.Contains(behind, a) || slices.Contains(behind, b) {
				errno = api.ErrRange
			}
			// Named first, it is told first.
			if slices.Contains(ahead, a) || slices.Contains(ahead, b) {
				errno = api.ErrPruned
			}
			got, e := p.Between(a, b)
			if e != errno || e != api.OK && len(got) > 0 {
				t.Fatalf("Between(%d, %d) = %v, %d, not %d", a, b, got, e, errno)
			}
			if e != api.OK {
				continue
			}
			var gone, come []api.Row
			for i := range 9 {
				r, to := row(0, 5, i), 10-i
				if a < to && to <= b {
					gone = append(gone, r)
				}
				if b < to && to <= a {
					come = append(come, r)
				}
			}
			var wanted []api.Change
			if len(gone)+len(come) > 0 {
				wanted = append(wanted, change("t", gone, come))
			}
			want(t, fmt.Sprintf("Between(%d, %d)", a, b), got, wanted)
		}
	}
}

// However they lie, they come in vers' order.
func TestP19_2Versions(t *testing.T) {
	p := past.New()
	s := vers.New()
	step := func(at int, l ...api.Change) {
		t.Helper()
		apply(t, p, at, l...)
		if e := s.Apply(at, l); e != api.OK {
			t.Fatal(e)
		}
		want(t, "Versions", p.Versions(), s.Versions())
	}
	step(1, change("t", nil, numbered(0, 9)), change("s", nil, numbered(0, 3)))
	step(2, change("t", numbered(4, 9), nil))
	roll(t, p, 5)
	want(t, "Versions behind Roll", p.Versions(), s.Versions())
	step(3, change("t", numbered(0, 2), numbered(0, 2)), change("s", numbered(1, 3), nil))
	step(4, change("t", numbered(0, 4), nil))
	roll(t, p, 8)
	step(5, change("s", numbered(0, 1), numbered(0, 1)))
	want(t, "Versions", p.Versions(), s.Versions())
	want(t, "stored", stored(p), "1 1 13")
	want(t, "the lengths", lengths(p), []int{5, 6, 2})
	prune(t, p, 3, 9)
	s.Drop(3)
	want(t, "Versions behind Prune", p.Versions(), s.Versions())
}

func TestP19_6Story(t *testing.T) {
	a, b, c := row(0, 5, 1, 0), row(5, 9, 1, 1), row(0, 9, 2, 0)
	p := of(t, 12, 0, version("t", a, 3, 5), version("t", b, 5, 9), version("t", c, 5, 7), version("t", a, 9, forever), version("s", a, 5, 9), version("t", row(0, 5, "1"), 2, 4))
	look := func(first int) {
		t.Helper()
		want(t, "Story", p.Story("t", num(1)), []api.Version{version("t", a, 3, 5), version("t", b, 5, 9), version("t", a, 9, forever)}[first:])
		want(t, "Story", p.Story("s", num(1)), []api.Version{version("s", a, 5, 9)})
		for _, v := range []api.Value{{}, num(3), str(""), {Kind: 9, Num: 1}, {Kind: api.Int, Num: 1, Str: "x"}} {
			want(t, "Story", p.Story("t", v), "[]")
		}
		for _, name := range []string{"", "u", "T", "\xff"} {
			want(t, "Story", p.Story(name, num(1)), "[]")
		}
	}
	look(0)
	want(t, "Story", p.Story("t", str("1")), []api.Version{version("t", row(0, 5, "1"), 2, 4)})
	roll(t, p, 5)
	look(0)
	prune(t, p, 4, 1)
	want(t, "Story", p.Story("t", str("1")), "[]")
	look(0)
	// What ended until the horizon is not told, what ended behind it is, as it was.
	prune(t, p, 5, 1)
	look(1)
	prune(t, p, 8, 1)
	look(1)
	want(t, "Story", p.Story("t", num(2)), "[]")
}

func TestP19_6Stored(t *testing.T) {
	p := past.New()
	look := func(wanted string) {
		t.Helper()
		want(t, "Stored", stored(p), wanted)
		force, loose, laid := p.Stored()
		if n := len(p.Versions()); n != force+loose+laid || n-len(ended(p.Versions())) != force {
			t.Errorf("of %d versions %d, %d, %d are stored", n, force, loose, laid)
		}
		inParts := 0
		for _, part := range p.Parts() {
			inParts += len(part)
		}
		want(t, "how many lie in partitions", inParts, laid)
	}
	look("0 0 0")
	apply(t, p, 1, change("t", nil, numbered(0, 9)), change("s", nil, numbered(0, 1)))
	look("10 0 0")
	apply(t, p, 2, change("t", numbered(0, 7), numbered(0, 1)))
	look("4 7 0")
	roll(t, p, 7)
	look("4 0 7")
	apply(t, p, 3, change("t", numbered(0, 1), nil))
	look("3 1 7")
	prune(t, p, 2, 7)
	look("3 1 0")
	prune(t, p, 3, 1)
	look("3 0 0")
	apply(t, p, 4, change("t", numbered(7, 9), nil), change("s", numbered(0, 1), nil))
	look("0 3 0")
	roll(t, p, 3)
	look("0 0 3")
}

func TestP1Nil(t *testing.T) {
	var p *past.Past
	numbers := []int{math.MinInt, -1, 0, 1, clock, clock + 1, math.MaxInt}
	for _, a := range numbers {
		if p.Apply(a, nil) != api.ErrNil || p.Apply(a, []api.Change{{}}) != api.ErrNil {
			t.Error("Apply of nil")
		}
		if n, e := p.Prune(a); n != 0 || e != api.ErrNil {
			t.Errorf("Prune(%d) of nil = %d, %d", a, n, e)
		}
		if s, e := p.AsOf(a); s != nil || e != api.ErrNil {
			t.Errorf("AsOf(%d) of nil = %d", a, e)
		}
		for _, b := range numbers {
			if l, e := p.During("t", span(a, b)); len(l) > 0 || e != api.ErrNil {
				t.Errorf("During(%d, %d) of nil = %d", a, b, e)
			}
			if l, e := p.Between(a, b); len(l) > 0 || e != api.ErrNil {
				t.Errorf("Between(%d, %d) of nil = %d", a, b, e)
			}
		}
	}
	if p.Roll() != 0 || p.Current() != nil || p.Horizon() != 0 || p.Last() != 0 || len(p.Parts()) > 0 || len(p.Versions()) > 0 || p.Fork() != nil || len(p.Story("t", num(1))) > 0 || stored(p) != "0 0 0" || len(p.Diff(nil)) > 0 || len(p.Diff(state(t, "t", numbered(0, 1)))) > 0 {
		t.Error("nil has something")
	}
}

func TestP1WrongInputs(t *testing.T) {
	numbers := []int{math.MinInt, math.MinInt + 1, -1, 0, 1, 4, 10, 11, clock, clock + 1, forever, math.MaxInt - 1, math.MaxInt}
	p := history(t)
	roll(t, p, 9)
	prune(t, p, 4, 3)
	ahead := whole(p)
	for _, a := range numbers {
		for _, b := range numbers {
			for _, x := range []api.Version{version("t", row(0, 5, 1), a, b), version("\xff", row(a, b, "\xff"), 1, 2), version("t", row(a, b), a, b), {}} {
				for _, last := range numbers {
					made, e := past.Of(last, a, []api.Version{x})
					if (made == nil) != (e != api.OK) {
						t.Fatalf("Of(%d, %d, %v) = %v, %d", last, a, x, made, e)
					}
				}
			}
			p.During("t", span(a, b))
			p.Between(a, b)
			fork := p.Fork()
			fork.Prune(a)
			fork.Apply(b, []api.Change{change("\xff", list(row(a, b)), list(row(a, b, "\xff"))), {}})
			fork.Apply(b, []api.Change{change("\xff", nil, list(row(0, 5, 1, 2, 3, 4, 5)))})
			fork.Roll()
			fork.Parts()
		}
	}
	want(t, "the past", whole(p), ahead)
}

// A row with as many values as may be, of either kind, is found again, and told from others.
func TestP19_1RollTellsRowsApart(t *testing.T) {
	var l []api.Row
	for i := range 2 {
		for j := range 2 {
			l = append(l, row(0, 5, 1, "a", i, j), row(0, 5, 1, "a", i, fmt.Sprint(j)), row(i, 5+j, 1, "", 0), row(i, 5+j, ""), row(i, 5+j, "", ""))
		}
	}
	l = append(l, row(0, 5, 1), row(0, 5, 1, 0), row(0, 5, 1, 0, 0), row(0, 5, 1, 0, 0, 0))
	p := past.New()
	apply(t, p, 1, change("t", nil, l))
	for i, r := range l {
		apply(t, p, 2+i, change("t", list(r), nil))
		roll(t, p, 1)
		want(t, "stored", stored(p), fmt.Sprint(len(l)-1-i, 0, i+1))
		want(t, "how many partitions", len(p.Parts()), i+1)
	}
	// All at one instant.
	p = past.New()
	apply(t, p, 1, change("t", nil, l), change("s", nil, l))
	apply(t, p, 2, change("t", l, nil), change("s", l, nil))
	roll(t, p, 2*len(l))
	want(t, "stored", stored(p), fmt.Sprint(0, 0, 2*len(l)))
	want(t, "what lies in partitions", slices.Concat(p.Parts()...), p.Versions())
	prune(t, p, 2, 2*len(l))
}

func scribbleRow(r api.Row) {
	for j := range r.Vals[:cap(r.Vals)] {
		r.Vals[:cap(r.Vals)][j] = str("scribble")
	}
}

// spare has spare room behind its end, and behind that of its values, with something in it.
func spare(l ...api.Row) []api.Row {
	all := make([]api.Row, 0, len(l)+2)
	for _, r := range l {
		vals := append(slices.Clone(r.Vals), num(501), str("spare"))
		all = append(all, api.Row{Vals: vals[:len(r.Vals)], Span: r.Span})
	}
	all = append(all, row(501, 502, 501), row(503, 504, "spare"))
	return all[:len(l)]
}

// toldRows has all spare room, too.
func toldRows(l []api.Row) string {
	text := ""
	for _, r := range l[:cap(l)] {
		text += fmt.Sprint(r.Span, r.Vals[:cap(r.Vals)], len(r.Vals), "; ")
	}
	return text
}

func scribble(l []api.Row) {
	for i, r := range l[:cap(l)] {
		scribbleRow(r)
		l[:cap(l)][i] = row(-77, 77, "scribble")
	}
}

func TestP3HandedIn(t *testing.T) {
	one := spare(row(0, 5, 2, 1), row(0, 5, 1, 1), row(5, 9, 1, 1))
	versions := append(make([]api.Version, 0, 5), version("t", one[0], 5, forever), version("t", one[1], 3, 6), version("t", one[2], 1, 5))
	ahead := toldRows(one) + fmt.Sprint(versions[:cap(versions)])
	p, e := past.Of(6, 4, versions)
	if e != api.OK || toldRows(one)+fmt.Sprint(versions[:cap(versions)]) != ahead {
		t.Errorf("Of = %d, and changes what is handed in", e)
	}
	roll(t, p, 2)
	kept := whole(p)
	scribble(one)
	clear(versions[:cap(versions)])
	want(t, "the past", whole(p), kept)

	gone, come := spare(row(0, 5, 2, 1)), spare(row(0, 5, 8), row(0, 5, 7))
	changes := append(make([]api.Change, 0, 4), change("t", gone, come))
	ahead = toldRows(gone) + toldRows(come) + fmt.Sprint(changes[:cap(changes)])
	if e := p.Apply(7, changes); e != api.OK {
		t.Errorf("Apply = %d", e)
	}
	if e := p.Apply(9, changes[:0]); e != api.OK {
		t.Errorf("Apply = %d", e)
	}
	roll(t, p, 1)
	if toldRows(gone)+toldRows(come)+fmt.Sprint(changes[:cap(changes)]) != ahead {
		t.Error("Apply changes what is handed in")
	}
	kept = whole(p)
	scribble(gone)
	scribble(come)
	clear(changes[:cap(changes)])
	want(t, "the past", whole(p), kept)

	target := state(t, "t u", spare(row(0, 5, 7), row(0, 5, 6)), numbered(1, 2))
	fork := target.Fork()
	for _, x := range p.Diff(target) {
		scribble(x.Gone)
		scribble(x.Come)
	}
	if !target.Same(fork) || whole(p) != kept {
		t.Error("Diff changes what is handed in, or answers of it")
	}
}

// answers are all rows that a past's calls answer, with a way to write over the lists that were answered.
func answers(p *past.Past) map[string]func() (rows []api.Row, over func()) {
	ofVersions := func(l []api.Version) ([]api.Row, func()) {
		var all []api.Row
		for _, v := range l {
			all = append(all, v.Row)
		}
		return all, func() { clear(l[:cap(l)]) }
	}
	ofChanges := func(l []api.Change) ([]api.Row, func()) {
		var all []api.Row
		for _, x := range l {
			all = append(append(all, x.Gone...), x.Come...)
		}
		return all, func() {
			for _, x := range l {
				scribble(x.Gone)
				scribble(x.Come)
			}
			clear(l[:cap(l)])
		}
	}
	ofState := func(s *rows.State) ([]api.Row, func()) {
		return s.Get("t"), func() { s.Put("t", list(row(0, 1, 77))) }
	}
	return map[string]func() ([]api.Row, func()){
		"Versions": func() ([]api.Row, func()) { return ofVersions(p.Versions()) },
		"Story":    func() ([]api.Row, func()) { return ofVersions(p.Story("t", num(1))) },
		"Diff":     func() ([]api.Row, func()) { return ofChanges(p.Diff(nil)) },
		"Current":  func() ([]api.Row, func()) { return ofState(p.Current()) },
		"Between": func() ([]api.Row, func()) {
			l, _ := p.Between(5, 9)
			return ofChanges(l)
		},
		"AsOf": func() ([]api.Row, func()) {
			s, _ := p.AsOf(6)
			return ofState(s)
		},
		"During": func() ([]api.Row, func()) {
			var all []api.Row
			l, _ := p.During("t", span(4, 99))
			for _, x := range l {
				all = append(all, api.Row{Vals: x.Vals, Span: x.Span})
			}
			return all, func() { clear(l[:cap(l)]) }
		},
		"Parts": func() ([]api.Row, func()) {
			var all []api.Row
			l := p.Parts()
			for _, part := range l {
				for _, v := range part {
					all = append(all, v.Row)
				}
			}
			return all, func() {
				// What is written behind one part's end is in no other one.
				for i, part := range l {
					others := fmt.Sprint(l[:i], l[i+1:])
					clear(part[:cap(part)])
					if fmt.Sprint(l[:i], l[i+1:]) != others {
						panic("two parts share a list")
					}
				}
				clear(l[:cap(l)])
			}
		},
	}
}

func TestP3HandedOut(t *testing.T) {
	p := history(t)
	roll(t, p, 9)
	prune(t, p, 4, 3)
	apply(t, p, 11, change("t", nil, numbered(20, 22)), change("s", list(row(0, 5, 1)), nil))
	apply(t, p, 12, change("t", numbered(20, 21), list(row(5, 9, 1), row(5, 9, 2))))
	roll(t, p, 2)
	kept := whole(p)
	for name, call := range answers(p) {
		got, over := call()
		before := fmt.Sprint(got)
		for i, r := range got {
			others := fmt.Sprint(got[:i], got[i+1:])
			scribbleRow(r)
			if fmt.Sprint(got[:i], got[i+1:]) != others {
				t.Errorf("%s: row %d shares its values with another one", name, i)
			}
		}
		over()
		want(t, "the past, behind what "+name+" answers is written over,", whole(p), kept)
		again, _ := call()
		want(t, name+", again,", fmt.Sprint(again), before)
		if len(again) < 2 {
			t.Errorf("%s has only %v", name, again)
		}
	}
}

func TestP4Forks(t *testing.T) {
	r := row(7, 8, 9)
	for _, laid := range []bool{false, true} {
		p := history(t)
		if laid {
			roll(t, p, 9)
		}
		fork := p.Fork()
		ahead := whole(p)
		want(t, "the fork", whole(fork), ahead)
		// Each thing that changes the one, then the other one.
		mine := ahead
		for i, step := range []func(p *past.Past){
			func(p *past.Past) { apply(t, p, 11, change("t", numbered(9, 10), list(r))) },
			func(p *past.Past) { p.Roll() },
			func(p *past.Past) { p.Prune(5) },
			func(p *past.Past) { apply(t, p, 12, change("t", list(r), nil), change("s", nil, list(r))) },
			func(p *past.Past) { p.Roll() },
			func(p *past.Past) { p.Prune(12) },
		} {
			step(p)
			if whole(p) == mine && !(laid && i == 1) {
				t.Fatalf("step %d changes nothing", i)
			}
			want(t, "the fork", whole(fork), ahead)
			mine = whole(p)
		}
		apply(t, fork, 20, change("s", list(row(0, 5, 1)), nil))
		fork.Roll()
		fork.Prune(8)
		want(t, "the past", whole(p), mine)
		want(t, "the fork", stored(fork), "1 0 3")
		want(t, "the lengths", lengths(fork), map[bool][]int{false: {3}, true: {2, 1}}[laid])
	}
	a, b := past.New(), past.New()
	apply(t, a, 3, change("t", nil, list(r)))
	apply(t, a, 4, change("t", list(r), nil))
	roll(t, a, 1)
	if b.Last() != 0 || len(b.Versions()) > 0 || len(b.Parts()) > 0 {
		t.Error("two new ones have one another's")
	}
}

func TestP6NothingIsKept(t *testing.T) {
	p := history(t)
	roll(t, p, 9)
	ahead := whole(p)
	for range 20 {
		other := history(t)
		roll(t, other, 9)
		want(t, "another one", whole(other), ahead)
		prune(t, other, 9, 8)
		want(t, "the past", whole(p), ahead)
	}
}
