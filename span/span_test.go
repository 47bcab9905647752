package span_test

import (
	"math"
	"slices"
	"testing"

	"regesta/api"
	"regesta/span"
)

// The model: a set of points, as the document says it, without any reckoning with spans.

const (
	lowest  = api.Least - 3
	highest = api.Most + 3
)

type points [highest - lowest]bool

func (p *points) add(s api.Span) {
	if s.From < api.Least || s.To > api.Most || s.From >= s.To {
		return
	}
	for i := s.From; i < s.To; i++ {
		p[i-lowest] = true
	}
}

func pointsOf(l ...api.Span) points {
	var p points
	for _, s := range l {
		p.add(s)
	}
	return p
}

func (p *points) count() int {
	n := 0
	for _, has := range p {
		if has {
			n++
		}
	}
	return n
}

// runs are the longest stretches of points, rising: the one list that promises of 'rising, none touches the next one' leave open.
func (p *points) runs() []api.Span {
	var out []api.Span
	for i := lowest; i < highest; i++ {
		if !p[i-lowest] {
			continue
		}
		if n := len(out); n > 0 && out[n-1].To == i {
			out[n-1].To = i + 1
		} else {
			out = append(out, api.Span{From: i, To: i + 1})
		}
	}
	return out
}

func meet(a, b points) points {
	for i := range a {
		a[i] = a[i] && b[i]
	}
	return a
}

func without(a, b points) points {
	for i := range a {
		a[i] = a[i] && !b[i]
	}
	return a
}

func sp(from, to int) api.Span { return api.Span{From: from, To: to} }

// windows are all spans, right or not, with both ends in a few places about the limits, and in the middle.
func windows(width int) [][]api.Span {
	var out [][]api.Span
	for _, base := range []int{api.Least - width/2, -1, api.Most - width/2} {
		var l []api.Span
		for from := range width {
			for to := range width {
				l = append(l, sp(base+from, base+to))
			}
		}
		out = append(out, l)
	}
	return out
}

func oddSpans() []api.Span {
	var out []api.Span
	ends := []int{math.MinInt, math.MinInt + 1, api.Least - 1, api.Least, api.Least + 1, 0, 1, api.Most - 1, api.Most, api.Most + 1, math.MaxInt - 1, math.MaxInt}
	for _, from := range ends {
		for _, to := range ends {
			out = append(out, sp(from, to))
		}
	}
	return out
}

func pairs(t *testing.T, f func(a, b api.Span)) {
	t.Helper()
	for _, l := range append(windows(7), oddSpans()) {
		for _, a := range l {
			for _, b := range l {
				f(a, b)
			}
		}
	}
}

// lists are all lists of up to three spans of narrow windows, wrong ones among them, in all orders.
func lists(f func(l []api.Span, window []api.Span)) {
	for _, w := range windows(4) {
		f(nil, w)
		f([]api.Span{}, w)
		for _, a := range w {
			f([]api.Span{a}, w)
			for _, b := range w {
				f([]api.Span{a, b}, w)
				for _, c := range w {
					f([]api.Span{a, b, c}, w)
				}
			}
		}
	}
}

func TestP1_1Right(t *testing.T) {
	for _, c := range []struct {
		s    api.Span
		want bool
	}{
		{sp(0, 1), true}, {sp(-5, 5), true}, {sp(api.Least, api.Most), true},
		{sp(api.Least, api.Least+1), true}, {sp(api.Most-1, api.Most), true},
		{sp(0, 0), false}, {sp(1, 0), false}, {sp(api.Least, api.Least), false}, {sp(api.Most, api.Most), false},
		{sp(api.Least-1, 0), false}, {sp(0, api.Most+1), false}, {sp(api.Most, api.Most+1), false}, {sp(api.Least-1, api.Least), false},
		{sp(math.MinInt, math.MaxInt), false}, {sp(math.MaxInt, math.MinInt), false}, {sp(0, api.Forever), false}, {api.Span{}, false},
	} {
		if got := span.Right(c.s); got != c.want {
			t.Errorf("Right(%v) = %v", c.s, got)
		}
	}
}

func TestP1_1Has(t *testing.T) {
	for _, l := range append(windows(7), oddSpans()) {
		for _, s := range l {
			p := pointsOf(s)
			for i := lowest; i < highest; i++ {
				if got := span.Has(s, i); got != p[i-lowest] {
					t.Fatalf("Has(%v, %d) = %v", s, i, got)
				}
			}
			if span.Has(s, math.MinInt) || span.Has(s, math.MaxInt) {
				t.Fatalf("%v has points beyond the limits", s)
			}
		}
	}
	if span.Has(sp(0, 2000), 5) || span.Has(sp(-2000, 5), 0) {
		t.Error("a span that is not right has a point")
	}
}

func TestP1_1Overlaps(t *testing.T) {
	pairs(t, func(a, b api.Span) {
		both := meet(pointsOf(a), pointsOf(b))
		if got := span.Overlaps(a, b); got != (both.count() > 0) {
			t.Fatalf("Overlaps(%v, %v) = %v", a, b, got)
		}
	})
	if span.Overlaps(sp(-2000, 5), sp(0, 2000)) || span.Overlaps(sp(0, 9), sp(0, 2000)) {
		t.Error("a span that is not right overlaps")
	}
}

func TestP1_1Meets(t *testing.T) {
	pairs(t, func(a, b api.Span) {
		pa, pb := pointsOf(a), pointsOf(b)
		want := pa.count() > 0 && pb.count() > 0 && a.To == b.From
		if got := span.Meets(a, b); got != want {
			t.Fatalf("Meets(%v, %v) = %v", a, b, got)
		}
	})
	if !span.Meets(sp(0, 5), sp(5, 6)) || span.Meets(sp(5, 6), sp(0, 5)) || span.Meets(sp(0, 5), sp(5, 5)) || span.Meets(sp(5, 5), sp(5, 9)) {
		t.Error("Meets")
	}
}

func TestP1_1Both(t *testing.T) {
	pairs(t, func(a, b api.Span) {
		model := meet(pointsOf(a), pointsOf(b))
		want := model.runs()
		got, ok := span.Both(a, b)
		if ok != (len(want) == 1) {
			t.Fatalf("Both(%v, %v) = %v, %v", a, b, got, ok)
		}
		if !ok && got != (api.Span{}) {
			t.Fatalf("Both(%v, %v) tells %v beside false", a, b, got)
		}
		if ok && got != want[0] {
			t.Fatalf("Both(%v, %v) = %v, not %v", a, b, got, want[0])
		}
	})
}

func TestP1_1Minus(t *testing.T) {
	pairs(t, func(a, b api.Span) {
		model := without(pointsOf(a), pointsOf(b))
		if got := span.Minus(a, b); !slices.Equal(got, model.runs()) {
			t.Fatalf("Minus(%v, %v) = %v", a, b, got)
		}
	})
	if got := span.Minus(sp(0, 10), sp(3, 5)); !slices.Equal(got, []api.Span{sp(0, 3), sp(5, 10)}) {
		t.Errorf("example 1: %v", got)
	}
	if got := span.Minus(sp(0, 10), sp(3, 2000)); !slices.Equal(got, []api.Span{sp(0, 10)}) {
		t.Errorf("a wrong span takes points away: %v", got)
	}
}

func TestP1_2Join(t *testing.T) {
	lists(func(l, _ []api.Span) {
		model := pointsOf(l...)
		if got := span.Join(l); !slices.Equal(got, model.runs()) {
			t.Fatalf("Join(%v) = %v", l, got)
		}
	})
	if got := span.Join([]api.Span{sp(3, 5), sp(0, 3), sp(7, 8)}); !slices.Equal(got, []api.Span{sp(0, 5), sp(7, 8)}) {
		t.Errorf("example 2: %v", got)
	}
	if got := span.Join([]api.Span{sp(0, 10), sp(2, 3), sp(9, 12)}); !slices.Equal(got, []api.Span{sp(0, 12)}) {
		t.Errorf("a span within another one: %v", got)
	}
	if got := span.Join(oddSpans()); !slices.Equal(got, []api.Span{sp(api.Least, api.Most)}) {
		t.Errorf("spans of all kinds: %v", got)
	}
}

func TestP1_2Gaps(t *testing.T) {
	lists(func(l, window []api.Span) {
		has := pointsOf(l...)
		if len(l) == 3 && l[0].From > l[1].From { // enough orders: P1.4 has them all
			return
		}
		for _, s := range window {
			model := without(pointsOf(s), has)
			if got := span.Gaps(l, s); !slices.Equal(got, model.runs()) {
				t.Fatalf("Gaps(%v, %v) = %v", l, s, got)
			}
		}
	})
	whole := sp(api.Least, api.Most)
	if got := span.Gaps(nil, whole); !slices.Equal(got, []api.Span{whole}) {
		t.Errorf("Gaps of none: %v", got)
	}
	if got := span.Gaps([]api.Span{sp(0, 5)}, sp(-2000, 9)); len(got) != 0 {
		t.Errorf("Gaps of a span that is not right: %v", got)
	}
	if got := span.Gaps([]api.Span{sp(0, 2000), sp(3, 3)}, sp(0, 9)); !slices.Equal(got, []api.Span{sp(0, 9)}) {
		t.Errorf("wrong spans fill gaps: %v", got)
	}
}

func TestP1_2Covers(t *testing.T) {
	lists(func(l, window []api.Span) {
		for _, s := range window {
			want := span.Right(s) && len(span.Gaps(l, s)) == 0
			if got := span.Covers(l, s); got != want {
				t.Fatalf("Covers(%v, %v) = %v", l, s, got)
			}
		}
	})
	if !span.Covers([]api.Span{sp(5, 9), sp(0, 3), sp(3, 5)}, sp(1, 9)) {
		t.Error("spans that touch do not cover")
	}
	if span.Covers([]api.Span{sp(0, 3), sp(4, 9)}, sp(0, 9)) || span.Covers(nil, sp(0, 1)) {
		t.Error("covers in spite of a gap")
	}
	if span.Covers([]api.Span{sp(api.Least, api.Most)}, sp(5, 5)) || span.Covers(nil, api.Span{}) || span.Covers([]api.Span{sp(0, 2000)}, sp(0, 2000)) {
		t.Error("covers a span that is not right")
	}
}

// cutModel begins a new piece at each point that is named.
func cutModel(s api.Span, at []int) []api.Span {
	p := pointsOf(s)
	var out []api.Span
	for i := lowest; i < highest; i++ {
		if !p[i-lowest] {
			continue
		}
		if len(out) == 0 || slices.Contains(at, i) {
			out = append(out, sp(i, i))
		}
		out[len(out)-1].To = i + 1
	}
	return out
}

func TestP1_2Cut(t *testing.T) {
	for _, w := range windows(6) {
		base := w[0].From
		for _, s := range w {
			for n := range 6 * 6 * 6 {
				at := []int{base + n%6, base + n/6%6, base + n/36}
				if got := span.Cut(s, at); !slices.Equal(got, cutModel(s, at)) {
					t.Fatalf("Cut(%v, %v) = %v", s, at, got)
				}
			}
		}
	}
	for _, c := range []struct {
		s    api.Span
		at   []int
		want []api.Span
	}{
		{sp(0, 9), []int{5, 0, 9, 3, 5}, []api.Span{sp(0, 3), sp(3, 5), sp(5, 9)}},
		{sp(0, 9), nil, []api.Span{sp(0, 9)}},
		{sp(0, 9), []int{}, []api.Span{sp(0, 9)}},
		{sp(0, 9), []int{0, 9, -1, 10, math.MinInt, math.MaxInt}, []api.Span{sp(0, 9)}},
		{sp(0, 9), []int{8, 1}, []api.Span{sp(0, 1), sp(1, 8), sp(8, 9)}},
		{sp(api.Least, api.Most), []int{api.Most, api.Least, api.Most - 1}, []api.Span{sp(api.Least, api.Most-1), sp(api.Most-1, api.Most)}},
		{sp(9, 0), []int{5}, nil},
		{sp(0, 2000), []int{5}, nil},
		{sp(3, 3), []int{3}, nil},
	} {
		if got := span.Cut(c.s, c.at); !slices.Equal(got, c.want) {
			t.Errorf("Cut(%v, %v) = %v", c.s, c.at, got)
		}
	}
}

func TestP1_2Count(t *testing.T) {
	lists(func(l, _ []api.Span) {
		model := pointsOf(l...)
		if got := span.Count(l); got != model.count() {
			t.Fatalf("Count(%v) = %d", l, got)
		}
	})
	if got := span.Count(oddSpans()); got != api.Most-api.Least {
		t.Errorf("Count of all points: %d", got)
	}
}

func TestP1_3MinusAndBoth(t *testing.T) {
	pairs(t, func(a, b api.Span) {
		pieces := span.Minus(a, b)
		if both, ok := span.Both(a, b); ok {
			pieces = append(pieces, both)
		}
		total := 0
		for _, s := range pieces {
			if !span.Right(s) {
				t.Fatalf("of %v and %v comes %v", a, b, s)
			}
			total += s.To - s.From
		}
		want := pointsOf(a)
		if pointsOf(pieces...) != want || total != want.count() {
			t.Fatalf("%v and %v come to %v", a, b, pieces)
		}
	})
}

func TestP1_4JoinOfJoin(t *testing.T) {
	lists(func(l, _ []api.Span) {
		joined := span.Join(l)
		if again := span.Join(joined); !slices.Equal(again, joined) {
			t.Fatalf("Join(%v) = %v, and of that %v", l, joined, again)
		}
		back := slices.Clone(l)
		slices.Reverse(back)
		if other := span.Join(back); !slices.Equal(other, joined) {
			t.Fatalf("Join(%v) = %v, but %v backwards", l, joined, other)
		}
		if len(l) == 3 {
			turned := []api.Span{l[1], l[2], l[0]}
			if other := span.Join(turned); !slices.Equal(other, joined) {
				t.Fatalf("Join(%v) = %v, but %v turned", l, joined, other)
			}
		}
	})
}

func TestP1_5GapsOfGaps(t *testing.T) {
	lists(func(l, window []api.Span) {
		if len(l) > 2 {
			return
		}
		has := pointsOf(l...)
		for _, s := range window {
			model := meet(pointsOf(s), has)
			if got := span.Gaps(span.Gaps(l, s), s); !slices.Equal(got, model.runs()) {
				t.Fatalf("Gaps of Gaps(%v, %v) = %v", l, s, got)
			}
		}
	})
}

func apartModel(l []api.Span) bool {
	for i, a := range l {
		for _, b := range l[i+1:] {
			both := meet(pointsOf(a), pointsOf(b))
			if both.count() > 0 {
				return false
			}
		}
	}
	return true
}

func TestP1_6Apart(t *testing.T) {
	lists(func(l, _ []api.Span) {
		if got := span.Apart(l); got != apartModel(l) {
			t.Fatalf("Apart(%v) = %v", l, got)
		}
	})
	for _, c := range []struct {
		l    []api.Span
		want bool
	}{
		{nil, true}, {[]api.Span{sp(0, 5)}, true},
		{[]api.Span{sp(0, 5), sp(0, 5)}, false},
		{[]api.Span{sp(5, 9), sp(0, 5)}, true},
		{[]api.Span{sp(0, 10), sp(20, 30), sp(9, 10)}, false},
		{[]api.Span{sp(0, 100), sp(2, 3), sp(50, 51)}, false},
		{[]api.Span{sp(0, 2000), sp(0, 5), sp(3, 3), sp(-2000, 2000)}, true},
	} {
		if got := span.Apart(c.l); got != c.want {
			t.Errorf("Apart(%v) = %v", c.l, got)
		}
	}
}

// all calls every function that takes these arguments.
func all(l []api.Span, at []int, a, b api.Span, p int) {
	span.Right(a)
	span.Has(a, p)
	span.Overlaps(a, b)
	span.Meets(a, b)
	span.Both(a, b)
	span.Minus(a, b)
	span.Join(l)
	span.Gaps(l, a)
	span.Covers(l, a)
	span.Cut(a, at)
	span.Count(l)
	span.Apart(l)
}

func TestP1NoPanic(t *testing.T) {
	numbers := []int{math.MinInt, -1, 0, 1, api.Most, math.MaxInt}
	odd := oddSpans()
	for _, a := range odd {
		for _, b := range odd {
			all([]api.Span{a, b}, numbers, a, b, a.From)
			all(nil, nil, a, b, b.To)
			all([]api.Span{}, []int{}, a, b, 0)
		}
	}
}

func TestP3ArgumentsStay(t *testing.T) {
	room := []api.Span{sp(7, 8), sp(3, 5), sp(9, 9), sp(0, 3), sp(4, 6), sp(100, 200), sp(1, 2)}
	list := slices.Clone(room)
	cuts := []int{5, 0, 9, 3, 5, 77, 78}
	at := slices.Clone(cuts)
	all(list[:5], at[:5], sp(0, 9), sp(3, 5), 4)
	if !slices.Equal(list, room) || !slices.Equal(at, cuts) {
		t.Errorf("arguments changed: %v %v", list, at)
	}
}

func TestP3AnswersAreTheCallers(t *testing.T) {
	list := []api.Span{sp(0, 3), sp(5, 8)}
	kept := slices.Clone(list)
	at := []int{1, 2}
	answers := map[string]func() []api.Span{
		"Minus": func() []api.Span { return span.Minus(sp(0, 9), sp(3, 5)) },
		"Join":  func() []api.Span { return span.Join(list) },
		"Gaps":  func() []api.Span { return span.Gaps(list, sp(-5, 9)) },
		"Cut":   func() []api.Span { return span.Cut(sp(0, 9), at) },
	}
	for name, call := range answers {
		first := call()
		want := slices.Clone(first)
		spoilt := first[:cap(first)]
		for i := range spoilt {
			spoilt[i] = sp(-7, 77)
		}
		if !slices.Equal(list, kept) {
			t.Fatalf("%s: the answer lies in the argument", name)
		}
		if again := call(); !slices.Equal(again, want) {
			t.Errorf("%s: the second answer is %v, not %v", name, again, want)
		}
	}
}

func TestE4LongLists(t *testing.T) {
	var l []api.Span
	var at []int
	for i := range 200000 {
		from := api.Least + i*7%(api.Most-api.Least)
		l = append(l, sp(from, from+1))
		at = append(at, from)
	}
	whole := sp(api.Least, api.Most)
	if got := span.Join(l); !slices.Equal(got, []api.Span{whole}) {
		t.Errorf("Join: %d spans", len(got))
	}
	if span.Apart(l) || !span.Covers(l, whole) || len(span.Gaps(l, whole)) != 0 || span.Count(l) != api.Most-api.Least {
		t.Error("a long list is told wrong")
	}
	if got := span.Cut(whole, at); len(got) != api.Most-api.Least {
		t.Errorf("Cut: %d pieces", len(got))
	}
	if !span.Apart(l[:api.Most-api.Least]) {
		t.Error("each point once is not apart")
	}
}

// However a stretch is cut, its points stay the same, each once.
func TestE3CutsDoNotMatter(t *testing.T) {
	s := sp(-3, 6)
	for n := range 10 * 10 {
		at := []int{-4 + n%10, -4 + n/10}
		pieces := span.Cut(s, at)
		if !span.Apart(pieces) || !span.Covers(pieces, s) || !slices.Equal(span.Join(pieces), []api.Span{s}) {
			t.Fatalf("Cut(%v, %v) = %v", s, at, pieces)
		}
		for i := range len(pieces) {
			if !span.Right(pieces[i]) || i > 0 && !span.Meets(pieces[i-1], pieces[i]) {
				t.Fatalf("Cut(%v, %v) = %v", s, at, pieces)
			}
		}
	}
}
