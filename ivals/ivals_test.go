package ivals_test

import (
	"fmt"
	"math"
	"math/rand"
	"slices"
	"testing"

	"regesta/api"
	"regesta/ivals"
)

// The calls are those of the chapter.
var (
	_ func() *ivals.Ivals                         = ivals.New
	_ func(*ivals.Ivals, api.Span, int) api.Errno = (*ivals.Ivals).Add
	_ func(*ivals.Ivals, api.Span, int) bool      = (*ivals.Ivals).Remove
	_ func(*ivals.Ivals, int) []int               = (*ivals.Ivals).Stab
	_ func(*ivals.Ivals, api.Span) []int          = (*ivals.Ivals).Over
	_ func(*ivals.Ivals) int                      = (*ivals.Ivals).Len
	_ func(*ivals.Ivals) int                      = (*ivals.Ivals).Height
	_ func(*ivals.Ivals) bool                     = (*ivals.Ivals).Sound
	_ func(*ivals.Ivals) *ivals.Ivals             = (*ivals.Ivals).Fork
	_ func(*ivals.Ivals) ([]api.Span, []int)      = (*ivals.Ivals).Items
	_ func(*ivals.Ivals, int) (api.Span, bool)    = (*ivals.Ivals).Nearest
)

const (
	least    = math.MinInt
	greatest = math.MaxInt
)

type item struct {
	from, to, id int
}

func (i item) span() api.Span { return api.Span{From: i.from, To: i.to} }

// model is the chapter's words, as slowly as they are said: a list in order.
type model []item

func ordered(a, b item) int {
	return slices.Compare([]int{a.from, a.to, a.id}, []int{b.from, b.to, b.id})
}

func (m model) with(i item) model {
	out := append(slices.Clone(m), i)
	slices.SortFunc(out, ordered)
	return out
}

func (m model) without(i item) model {
	return slices.DeleteFunc(slices.Clone(m), func(j item) bool { return i == j })
}

func (m model) stab(p int) []int {
	var out []int
	for _, i := range m {
		if i.from <= p && p < i.to {
			out = append(out, i.id)
		}
	}
	return out
}

// over asks for the first point that both could have.
func (m model) over(from, to int) []int {
	var out []int
	for _, i := range m {
		if p := max(i.from, from); p < i.to && p < to {
			out = append(out, i.id)
		}
	}
	return out
}

func (m model) nearest(p int) (api.Span, bool) {
	for _, i := range m {
		if i.from >= p {
			return i.span(), true
		}
	}
	return api.Span{}, false
}

func mostHigh(n int) int {
	if n == 0 {
		return 0
	}
	halvings := 0
	for ; n > 1; n /= 2 {
		halvings++
	}
	return 2*halvings + 2
}

// stands asks what is asked of an index as a whole.
func stands(t *testing.T, what string, x *ivals.Ivals, n int) {
	t.Helper()
	if x.Len() != n {
		t.Fatalf("%s: Len is %d, not %d", what, x.Len(), n)
	}
	if h := x.Height(); h > mostHigh(n) || h < min(n, 1) {
		t.Fatalf("%s: Height is %d with %d stretches", what, h, n)
	}
	if !x.Sound() {
		t.Fatalf("%s: not sound", what)
	}
}

func same(t *testing.T, what string, x *ivals.Ivals, m model) {
	t.Helper()
	stands(t, what, x, len(m))
	spans, ids := x.Items()
	if len(spans) != len(ids) {
		t.Fatalf("%s: %d spans, %d numbers", what, len(spans), len(ids))
	}
	var got model
	for i, s := range spans {
		got = append(got, item{s.From, s.To, ids[i]})
	}
	if !slices.Equal(got, m) {
		t.Fatalf("%s: Items are %v, not %v", what, got, m)
	}
}

// agrees asks everything at each of some points, and between any two of them.
func agrees(t *testing.T, what string, x *ivals.Ivals, m model, points []int) {
	t.Helper()
	same(t, what, x, m)
	for _, p := range points {
		if got, want := x.Stab(p), m.stab(p); !slices.Equal(got, want) {
			t.Fatalf("%s: Stab(%d) is %v, not %v", what, p, got, want)
		}
		if p < greatest {
			if got, want := x.Over(api.Span{From: p, To: p + 1}), m.stab(p); !slices.Equal(got, want) {
				t.Fatalf("%s: Over of the point %d is %v, Stab %v", what, p, got, want)
			}
		}
		want, ok := m.nearest(p)
		if got, was := x.Nearest(p); got != want || was != ok {
			t.Fatalf("%s: Nearest(%d) is %v, %v, not %v, %v", what, p, got, was, want, ok)
		}
		for _, to := range points {
			if got, want := x.Over(api.Span{From: p, To: to}), m.over(p, to); !slices.Equal(got, want) {
				t.Fatalf("%s: Over(%d, %d) is %v, not %v", what, p, to, got, want)
			}
		}
	}
}

func add(t *testing.T, x *ivals.Ivals, m model, i item) model {
	t.Helper()
	want := api.OK
	switch {
	case i.from >= i.to:
		want = api.ErrPeriod
	case slices.Contains(m, i):
		want = api.ErrExist
	}
	if errno := x.Add(i.span(), i.id); errno != want {
		t.Fatalf("Add(%v): %d, not %d", i, errno, want)
	}
	if want != api.OK {
		return m
	}
	return m.with(i)
}

func remove(t *testing.T, x *ivals.Ivals, m model, i item) model {
	t.Helper()
	want := slices.Contains(m, i)
	if got := x.Remove(i.span(), i.id); got != want {
		t.Fatalf("Remove(%v) is %v, not %v", i, got, want)
	}
	return m.without(i)
}

func filled(t *testing.T, items ...item) (*ivals.Ivals, model) {
	t.Helper()
	x, m := ivals.New(), model(nil)
	for _, i := range items {
		m = add(t, x, m, i)
	}
	return x, m
}

// some are stretches of all lengths, whose numbers are not in the order in which they come.
func some(n int) []item {
	var out []item
	for i := range n {
		from := i / 3 * 2
		out = append(out, item{from, from + 1 + i*i%17, -i % 7})
	}
	return slices.CompactFunc(out, func(a, b item) bool { return a == b })
}

func pointsUpTo(n int) []int {
	out := []int{least, least + 1, -1}
	for p := range n + 1 {
		out = append(out, p)
	}
	return append(out, greatest-1, greatest)
}

func orders(n int) map[string][]int {
	rising := make([]int, n)
	for i := range rising {
		rising[i] = i
	}
	falling := slices.Clone(rising)
	slices.Reverse(falling)
	out := map[string][]int{"rising": rising, "falling": falling, "inward": nil, "outward": nil}
	for i := range n {
		if i%2 == 0 {
			out["inward"] = append(out["inward"], i/2)
		} else {
			out["inward"] = append(out["inward"], n-1-i/2)
		}
	}
	out["outward"] = slices.Clone(out["inward"])
	slices.Reverse(out["outward"])
	for seed := range 4 {
		out[fmt.Sprint("shuffled ", seed)] = rand.New(rand.NewSource(int64(seed))).Perm(n)
	}
	return out
}

func TestExample(t *testing.T) {
	x, _ := filled(t, item{0, 5, 1}, item{3, 9, 2})
	if got := x.Stab(4); !slices.Equal(got, []int{1, 2}) {
		t.Error(got)
	}
	if got := x.Over(api.Span{From: 5, To: 6}); !slices.Equal(got, []int{2}) {
		t.Error(got)
	}
}

func TestNil(t *testing.T) {
	var x *ivals.Ivals
	for _, s := range []api.Span{{}, {From: 0, To: 5}, {From: 5, To: 0}, {From: least, To: greatest}} {
		if errno := x.Add(s, 1); errno != api.ErrNil {
			t.Errorf("Add(%v): %d", s, errno)
		}
		if x.Remove(s, 1) {
			t.Errorf("Remove(%v)", s)
		}
		if l := x.Over(s); len(l) != 0 {
			t.Errorf("Over(%v): %v", s, l)
		}
	}
	for _, p := range pointsUpTo(3) {
		if l := x.Stab(p); len(l) != 0 {
			t.Errorf("Stab(%d): %v", p, l)
		}
		if s, ok := x.Nearest(p); s != (api.Span{}) || ok {
			t.Errorf("Nearest(%d): %v, %v", p, s, ok)
		}
	}
	if spans, ids := x.Items(); len(spans) != 0 || len(ids) != 0 {
		t.Error(spans, ids)
	}
	if x.Len() != 0 || x.Height() != 0 || x.Sound() || x.Fork() != nil {
		t.Error(x.Len(), x.Height(), x.Sound(), x.Fork())
	}
}

func TestNoneAndOneAlone(t *testing.T) {
	x, m := filled(t)
	agrees(t, "none", x, m, pointsUpTo(9))
	if x.Height() != 0 {
		t.Error("Height without any:", x.Height())
	}
	m = remove(t, x, m, item{2, 5, 1})
	m = add(t, x, m, item{2, 5, 1})
	agrees(t, "one alone", x, m, pointsUpTo(9))
	if h := x.Height(); h < 1 || h > 2 {
		t.Error("Height with one:", h)
	}
	for _, i := range []item{{2, 5, 0}, {2, 5, 2}, {2, 4, 1}, {2, 6, 1}, {1, 5, 1}, {3, 5, 1}, {5, 2, 1}, {2, 2, 1}, {5, 5, 1}} {
		m = remove(t, x, m, i)
		agrees(t, "of another one's Remove", x, m, pointsUpTo(9))
	}
	m = remove(t, x, m, item{2, 5, 1})
	m = remove(t, x, m, item{2, 5, 1})
	agrees(t, "the only one taken out", x, m, pointsUpTo(9))
	if x.Height() != 0 {
		t.Error("Height behind the last one:", x.Height())
	}
}

func TestStretchesWithoutPoints(t *testing.T) {
	for _, n := range []int{0, 1, 30} {
		x, m := filled(t, some(n)...)
		for _, i := range []item{{0, 0, 0}, {3, 3, 1}, {4, 3, 1}, {1, 0, 0}, {-1, -1, 5}, {least, least, 0}, {greatest, greatest, 0}, {greatest, least, 0}, {0, least, 0}, {greatest, 0, 0}} {
			m = add(t, x, m, i)
			m = remove(t, x, m, i)
			if l := x.Over(i.span()); len(l) != 0 {
				t.Errorf("Over(%v): %v", i, l)
			}
		}
		same(t, "behind stretches without points", x, m)
	}
}

func TestAlikes(t *testing.T) {
	x, m := filled(t, item{2, 5, 7}, item{2, 5, -3}, item{2, 5, 7}, item{2, 4, 7}, item{3, 5, 7}, item{2, 5, 8})
	if len(m) != 5 {
		t.Fatal(m)
	}
	agrees(t, "alikes", x, m, pointsUpTo(6))
	if got := x.Stab(3); !slices.Equal(got, []int{7, -3, 7, 8, 7}) {
		t.Error("a number is told once a stretch, in the order of these:", got)
	}
	m = remove(t, x, m, item{2, 5, 7})
	agrees(t, "one of the alikes taken out", x, m, pointsUpTo(6))
	m = add(t, x, m, item{2, 5, 7})
	agrees(t, "and laid in again", x, m, pointsUpTo(6))
}

func TestErrorsComeInOrder(t *testing.T) {
	x, m := filled(t, item{2, 5, 1})
	if errno := x.Add(api.Span{From: 5, To: 2}, 1); errno != api.ErrPeriod {
		t.Error(errno)
	}
	if errno := x.Add(api.Span{From: 2, To: 5}, 1); errno != api.ErrExist {
		t.Error(errno)
	}
	same(t, "behind errors", x, m)
}

func TestLeastAndGreatest(t *testing.T) {
	points := []int{least, least + 1, least + 2, -1, 0, 1, greatest - 2, greatest - 1, greatest}
	var items []item
	for _, from := range points {
		for _, to := range points {
			for _, id := range []int{greatest, 0, least} {
				items = append(items, item{from, to, id})
			}
		}
	}
	x, m := filled(t, items...)
	agrees(t, "all ends", x, m, points)
	if l := x.Stab(greatest); len(l) != 0 {
		t.Error("nothing has the greatest number as a point:", l)
	}
	for _, i := range items {
		m = remove(t, x, m, i)
		stands(t, "all ends, removed", x, len(m))
	}
	for _, i := range []item{{least, greatest, 1}, {least, least + 1, 2}, {greatest - 1, greatest, 3}} {
		y, n := filled(t, i)
		agrees(t, "one at the ends", y, n, points)
	}
}

func TestStabAndOverAtEnds(t *testing.T) {
	x, _ := filled(t, item{10, 20, 1})
	for _, c := range []struct {
		p    int
		want bool
	}{{9, false}, {10, true}, {11, true}, {19, true}, {20, false}, {21, false}} {
		if got := len(x.Stab(c.p)) == 1; got != c.want {
			t.Errorf("Stab(%d): %v", c.p, got)
		}
	}
	for _, c := range []struct {
		from, to int
		want     bool
	}{{0, 10, false}, {0, 11, true}, {20, 30, false}, {19, 30, true}, {12, 13, true}, {0, 30, true}, {10, 20, true}, {12, 12, false}, {13, 12, false}, {20, 10, false}, {10, 10, false}} {
		if got := len(x.Over(api.Span{From: c.from, To: c.to})) == 1; got != c.want {
			t.Errorf("Over(%d, %d): %v", c.from, c.to, got)
		}
	}
}

func TestNearest(t *testing.T) {
	x, _ := filled(t, item{10, 50, 3}, item{10, 20, 9}, item{30, 31, 1}, item{30, 40, 0})
	for _, c := range []struct {
		p    int
		want api.Span
		ok   bool
	}{
		{least, api.Span{From: 10, To: 20}, true}, {9, api.Span{From: 10, To: 20}, true}, {10, api.Span{From: 10, To: 20}, true},
		{11, api.Span{From: 30, To: 31}, true}, {29, api.Span{From: 30, To: 31}, true}, {30, api.Span{From: 30, To: 31}, true},
		{31, api.Span{}, false}, {greatest, api.Span{}, false},
	} {
		if got, ok := x.Nearest(c.p); got != c.want || ok != c.ok {
			t.Errorf("Nearest(%d): %v, %v", c.p, got, ok)
		}
	}
}

// With so few stretches each run of Adds and Removes can be tried.
func TestAllShortRuns(t *testing.T) {
	items := []item{{0, 1, 0}, {0, 2, 0}, {1, 2, 0}, {0, 2, 1}, {1, 1, 0}}
	var run func(x *ivals.Ivals, m model, steps string, left int)
	run = func(x *ivals.Ivals, m model, steps string, left int) {
		agrees(t, steps, x, m, []int{-1, 0, 1, 2, 3})
		if left == 0 {
			return
		}
		for _, i := range items {
			y := x.Fork()
			run(y, add(t, y, m, i), fmt.Sprint(steps, " add ", i), left-1)
			y = x.Fork()
			run(y, remove(t, y, m, i), fmt.Sprint(steps, " remove ", i), left-1)
		}
		same(t, steps+", behind its forks", x, m)
	}
	run(ivals.New(), nil, "new", 4)
}

func TestAnyOrder(t *testing.T) {
	for _, n := range []int{2, 3, 4, 7, 8, 15, 33, 120} {
		items := some(n)
		points := pointsUpTo(12)
		for in, adds := range orders(len(items)) {
			whole, m := ivals.New(), model(nil)
			for _, i := range adds {
				m = add(t, whole, m, items[i])
				stands(t, in, whole, len(m))
			}
			agrees(t, in, whole, m, points)
			for out, removes := range orders(len(items)) {
				x, left := whole.Fork(), m
				for at, i := range removes {
					left = remove(t, x, left, items[i])
					stands(t, in+", "+out, x, len(left))
					if at%13 == 0 || len(left) < 5 {
						agrees(t, in+", "+out, x, left, points)
					}
				}
				if x.Height() != 0 {
					t.Fatalf("%s, %s: Height is %d without any", in, out, x.Height())
				}
			}
			same(t, in+", behind its forks", whole, m)
		}
	}
}

func TestHeights(t *testing.T) {
	const n = 700
	for name, from := range map[string]func(int) int{
		"rising":  func(i int) int { return i },
		"falling": func(i int) int { return -i },
		"all one": func(int) int { return 0 },
	} {
		x := ivals.New()
		for i := range n {
			if errno := x.Add(api.Span{From: from(i), To: from(i) + 3}, i); errno != api.OK {
				t.Fatal(errno)
			}
			stands(t, name, x, i+1)
		}
		left := n
		for i := range n {
			if i%7 == 3 {
				continue
			}
			if !x.Remove(api.Span{From: from(i), To: from(i) + 3}, i) {
				t.Fatal(name, i)
			}
			left--
			stands(t, name+", behind Removes", x, left)
		}
	}
}

// A long stretch is found by all its points, wherever in the order it comes.
func TestLongAmongShort(t *testing.T) {
	for at := range 40 {
		var items []item
		for i := range 40 {
			items = append(items, item{2 * i, 2*i + 1, i})
		}
		items[at].to = 1000 - at
		items = append(items, item{2 * at, 2000, 77})
		x, m := filled(t, items...)
		agrees(t, fmt.Sprint("a long one at ", at), x, m, []int{-1, 0, 1, 2, 39, 40, 41, 78, 79, 80, 500, 999 - at, 1000 - at, 1999, 2000})
		m = remove(t, x, m, items[at])
		m = remove(t, x, m, items[40])
		agrees(t, fmt.Sprint("no long one at ", at), x, m, []int{-1, 0, 1, 39, 40, 78, 79, 80, 999 - at, 1999})
	}
}

func TestForksGoTheirOwnWays(t *testing.T) {
	r := rand.New(rand.NewSource(7))
	items := some(60)
	all, models := []*ivals.Ivals{ivals.New()}, []model{nil}
	for step := range 2000 {
		i := r.Intn(len(all))
		x, m := all[i], models[i]
		one := items[r.Intn(len(items))]
		switch {
		case step%40 == 0:
			y := x.Fork()
			if y == x {
				t.Fatal("a Fork is the index itself")
			}
			all, models = append(all, y), append(models, m)
		case r.Intn(3) > 0:
			models[i] = add(t, x, m, one)
		default:
			models[i] = remove(t, x, m, one)
		}
		if step%50 == 0 {
			for j := range all {
				same(t, fmt.Sprint("step ", step, ", index ", j), all[j], models[j])
			}
		}
	}
}

// Indexes have nothing in common but what they were forked with.
func TestIndexesAreApart(t *testing.T) {
	x, m := filled(t, some(20)...)
	y, n := filled(t, item{0, 1, 0})
	n = add(t, y, n, item{9, 10, 1})
	m = remove(t, x, m, item{0, 1, 0})
	same(t, "one", x, m)
	same(t, "the other one", y, n)
}

func TestAnswersAreTheCallers(t *testing.T) {
	x, m := filled(t, some(40)...)
	spans, ids := x.Items()
	otherSpans, otherIds := x.Items()
	stabbed, over := x.Stab(4), x.Over(api.Span{From: 4, To: 5})
	keptSpans, keptIds, kept := slices.Clone(otherSpans), slices.Clone(otherIds), slices.Clone(over)
	clear(spans)
	clear(ids)
	clear(stabbed)
	spans = append(spans[:2], api.Span{From: 1, To: 2})
	ids = append(ids[:2], 1)
	stabbed = append(stabbed[:1], 5)
	agrees(t, "behind changes of its answers", x, m, pointsUpTo(9))
	x.Remove(m[0].span(), m[0].id)
	if !slices.Equal(otherSpans, keptSpans) || !slices.Equal(otherIds, keptIds) || !slices.Equal(over, kept) {
		t.Error("an answer lies in another one, or in the index")
	}
}

func TestLongRunsAgainstModel(t *testing.T) {
	for seed := range 10 {
		r := rand.New(rand.NewSource(int64(seed)))
		x, m := filled(t)
		wide := 6 + 8*(seed%3)
		for step := range 1500 {
			one := item{r.Intn(wide), r.Intn(wide + 1), r.Intn(3) - 1}
			// Now rather growing, now rather falling.
			if r.Intn(10) < 3+4*(step/200%2) {
				m = add(t, x, m, one)
			} else if len(m) > 0 && r.Intn(4) > 0 {
				m = remove(t, x, m, m[r.Intn(len(m))])
			} else {
				m = remove(t, x, m, one)
			}
			what := fmt.Sprint("seed ", seed, ", step ", step)
			same(t, what, x, m)
			if step%50 == 0 {
				agrees(t, what, x, m, pointsUpTo(wide+1))
			}
		}
	}
}

func TestManyStretches(t *testing.T) {
	const n = 20000
	x := ivals.New()
	order := rand.New(rand.NewSource(1)).Perm(n)
	for _, i := range order {
		if errno := x.Add(api.Span{From: i, To: i + 5}, i); errno != api.OK {
			t.Fatal(errno)
		}
	}
	stands(t, "many", x, n)
	if got := x.Stab(1000); !slices.Equal(got, []int{996, 997, 998, 999, 1000}) {
		t.Error(got)
	}
	for _, i := range order[:n-3] {
		if !x.Remove(api.Span{From: i, To: i + 5}, i) {
			t.Fatal(i)
		}
	}
	stands(t, "few of many", x, 3)
}
