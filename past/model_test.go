package past_test

import (
	"cmp"
	"fmt"
	"slices"
	"testing"

	"regesta/api"
	"regesta/past"
	"regesta/vers"
)

// The model is the chapter's words: all versions that there ever were, in a store that forgets nothing, and, in plain lists, what was laid. At the horizon and behind it a past must tell what that store tells.
type model struct {
	was     *vers.Store
	horizon int
	parts   [][]api.Version
}

func same(a, b api.Version) bool { return told(a) == told(b) }

func (m model) fork() model {
	return model{m.was.Fork(), m.horizon, slices.Clone(m.parts)}
}

// left are those that ended behind the horizon, or have not ended (P19.5).
func (m model) left(l []api.Version) []api.Version {
	return slices.DeleteFunc(slices.Clone(l), func(v api.Version) bool { return v.Sys.To <= m.horizon })
}

func (m model) loose() []api.Version {
	return slices.DeleteFunc(ended(m.left(m.was.Versions())), func(v api.Version) bool {
		return slices.ContainsFunc(slices.Concat(m.parts...), func(o api.Version) bool { return same(v, o) })
	})
}

func (m *model) roll() int {
	loose := m.loose()
	slices.SortStableFunc(loose, func(a, b api.Version) int { return cmp.Compare(a.Sys.To, b.Sys.To) })
	for part := range slices.Chunk(loose, most) {
		m.parts = append(m.parts, part)
	}
	return len(loose)
}

func (m *model) prune(h int) (int, api.Errno) {
	if h > m.was.Last() {
		return 0, api.ErrRange
	}
	if h <= m.horizon {
		return 0, api.OK
	}
	ahead := len(m.left(m.was.Versions()))
	m.horizon = h
	var parts [][]api.Version
	for _, part := range m.parts {
		if rest := m.left(part); len(rest) > 0 {
			parts = append(parts, rest)
		}
	}
	m.parts = parts
	return ahead - len(m.left(m.was.Versions())), api.OK
}

// refusal is the error of a question about instants from first to last.
func (m model) refusal(first, last int) api.Errno {
	if first < m.horizon {
		return api.ErrPruned
	}
	if last > clock {
		return api.ErrRange
	}
	return api.OK
}

// agree holds all that is told of what is kept, and of each instant, against the model.
func agree(t *testing.T, p *past.Past, m model) {
	t.Helper()
	left := m.left(m.was.Versions())
	want(t, "Last", p.Last(), m.was.Last())
	want(t, "Horizon", p.Horizon(), m.horizon)
	want(t, "Versions", p.Versions(), left)
	want(t, "Parts", p.Parts(), m.parts)
	want(t, "Stored", stored(p), fmt.Sprint(len(left)-len(ended(left)), len(m.loose()), len(slices.Concat(m.parts...))))
	if !p.Current().Same(m.was.Current()) {
		t.Fatalf("Current = %s, not %s", toldState(p.Current()), toldState(m.was.Current()))
	}
	want(t, "Diff", p.Diff(nil), m.was.Diff(nil))
	for at := -1; at < m.was.Last()+3; at++ {
		s, e := p.AsOf(at)
		if errno := m.refusal(at, at); e != errno {
			t.Fatalf("AsOf(%d) behind the horizon %d = %d, not %d", at, m.horizon, e, errno)
		}
		if e == api.OK && !s.Same(m.was.AsOf(at)) {
			t.Fatalf("AsOf(%d) = %s, not %s", at, toldState(s), toldState(m.was.AsOf(at)))
		}
	}
}

// agreeOnWhiles holds what is told of two instants, and of keys, against the model.
func agreeOnWhiles(t *testing.T, p *past.Past, m model) {
	t.Helper()
	for a := -1; a < m.was.Last()+3; a++ {
		for b := -1; b < m.was.Last()+3; b++ {
			changes, e := p.Between(a, b)
			if errno := m.refusal(min(a, b), max(a, b)); e != errno {
				t.Fatalf("Between(%d, %d) behind the horizon %d = %d, not %d", a, b, m.horizon, e, errno)
			} else if e == api.OK {
				want(t, fmt.Sprintf("Between(%d, %d)", a, b), changes, m.was.Between(a, b))
			}
			outs, e := p.During("t", span(a, b))
			errno := m.refusal(a, b)
			if a >= b {
				errno = api.ErrPeriod
			}
			if e != errno {
				t.Fatalf("During(%d, %d) behind the horizon %d = %d, not %d", a, b, m.horizon, e, errno)
			} else if e == api.OK {
				want(t, fmt.Sprintf("During(%d, %d)", a, b), outs, m.was.During("t", span(a, b)))
			}
		}
	}
	for i := range 12 {
		for _, name := range []string{"t", "s"} {
			want(t, "Story", p.Story(name, num(int64(i))), m.left(m.was.Story(name, num(int64(i)))))
		}
	}
}

// changesOf are changes of what is in force: some come, some go, one goes and comes, or all of a table go.
func changesOf(m model, which, seed int) []api.Change {
	now := m.was.Current()
	ts, ss := now.Get("t"), now.Get("s")
	switch which {
	case 0:
		return []api.Change{change("t", ts, nil)}
	case 1:
		var come []api.Row
		for i := range 4 {
			come = append(come, row(seed%50, 60, (seed+i)%12))
		}
		return []api.Change{change("t", ts[len(ts)/2:], come), change("s", ss, come[:1])}
	case 2:
		return []api.Change{change("t", ts[:len(ts)/2], ts[:len(ts)/4])}
	}
	return nil
}

const kindsOfSteps = 8

// step does one thing to both, and tells whether both answer the same.
func step(t *testing.T, p *past.Past, m *model, which, seed int) {
	t.Helper()
	ahead := p.Horizon()
	switch which {
	case 0, 1, 2, 3:
		at, l := m.was.Last()+1+which%2, changesOf(*m, which, seed)
		got, e := p.Apply(at, l), m.was.Apply(at, l)
		want(t, fmt.Sprintf("Apply(%d, %v)", at, l), got, e)
	case 4, 5:
		want(t, "Roll", p.Roll(), m.roll())
	default:
		h := m.horizon + seed%4 - 1
		if which == 7 {
			h = m.was.Last() + seed%3 - 1
		}
		n, e := p.Prune(h)
		wantN, wantE := m.prune(h)
		want(t, fmt.Sprintf("Prune(%d)", h), fmt.Sprint(n, e), fmt.Sprint(wantN, wantE))
	}
	if p.Horizon() < ahead {
		t.Fatalf("the horizon falls from %d to %d", ahead, p.Horizon())
	}
}

// P19.3, P19.4, P19.5, and P4: all short runs of commits, rolls and prunes.
func TestP19_3AllShortRuns(t *testing.T) {
	tried := 0
	var runs func(p *past.Past, m model, length int)
	runs = func(p *past.Past, m model, length int) {
		agree(t, p, m)
		tried++
		if length == 0 {
			return
		}
		ahead := whole(p)
		for which := range kindsOfSteps {
			fork, other := p.Fork(), m.fork()
			step(t, fork, &other, which, 3*length+which)
			want(t, "what was forked", whole(p), ahead)
			runs(fork, other, length-1)
		}
	}
	p, m := past.New(), model{was: vers.New()}
	step(t, p, &m, 1, 0)
	step(t, p, &m, 1, 7)
	runs(p, m, 4)
	if tried < 4000 {
		t.Errorf("only %d runs were tried", tried)
	}
}

// Long runs come to many partitions, of which some are pruned in part, while others are laid.
func TestP19_3LongRuns(t *testing.T) {
	mostParts := 0
	for first := range 60 {
		p, m := past.New(), model{was: vers.New()}
		seed := uint32(first)
		for range 24 {
			seed = seed*1664525 + 1013904223
			step(t, p, &m, int(seed>>16)%kindsOfSteps, int(seed>>8)%251)
			agree(t, p, m)
			mostParts = max(mostParts, len(m.parts))
			// The model forgets nothing, and must have room.
			if len(m.was.Versions()) > 50 {
				break
			}
		}
		agreeOnWhiles(t, p, m)
		p.Roll()
		m.roll()
		agreeOnWhiles(t, p, m)
		// What is there makes a past, of which all that ended is loose.
		again := of(t, p.Last(), p.Horizon(), p.Versions()...)
		want(t, "Versions", again.Versions(), p.Versions())
		m.parts = nil
		agree(t, again, m)
	}
	if mostParts < 5 {
		t.Errorf("there were never more than %d partitions", mostParts)
	}
}

// E2: a state at an instant is the same, whatever is committed, rolled, or pruned since.
func TestE2WhatWas(t *testing.T) {
	for _, h := range []int{0, 3, 6} {
		p := history(t)
		then, e := p.AsOf(6)
		if e != api.OK {
			t.Fatal(e)
		}
		look := func() {
			t.Helper()
			if now, e := p.AsOf(6); e != api.OK || !now.Same(then) {
				t.Fatalf("AsOf(6) = %s, %d, not %s", toldState(now), e, toldState(then))
			}
		}
		for i := range 5 {
			apply(t, p, 11+2*i, change("t", nil, numbered(20, 24)))
			look()
			apply(t, p, 12+2*i, change("t", numbered(20, 24), nil))
			look()
			p.Roll()
			look()
			p.Prune(min(h, i+2))
			look()
		}
	}
}
