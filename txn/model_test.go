package txn_test

import (
	"fmt"
	"slices"
	"testing"

	"regesta/api"
	"regesta/txn"
)

// The model is the chapter's words: all that was committed, in a plain list, and who is open, in another one.
type model struct {
	clock, high int
	open        []opened
	commits     []committed
}

type opened struct {
	id, since int
	keys      []string
}

type committed struct {
	at   int
	keys []string
}

func modelAt(at int) model { return model{clock: at, high: at} }

func (m model) fork() model {
	m.open, m.commits = slices.Clone(m.open), slices.Clone(m.commits)
	return m
}

func (m model) place(id int) int {
	return slices.IndexFunc(m.open, func(o opened) bool { return o.id == id })
}

// refusal is the first error of a call of an open one.
func (m model) refusal(id int) api.Errno {
	if id < 0 || id >= sessions {
		return api.ErrRange
	}
	if m.place(id) < 0 {
		return api.ErrState
	}
	return api.OK
}

func (m *model) tick(n int) { m.clock = min(m.clock+max(n, 0), clock) }

func (m *model) begin(id int) (int, api.Errno) {
	if e := m.refusal(id); e == api.ErrRange {
		return 0, e
	} else if e == api.OK {
		return 0, api.ErrState
	}
	if m.clock > m.high {
		m.high = m.clock
	}
	m.open = append(m.open, opened{id: id, since: m.high})
	return m.high, api.OK
}

func (m *model) write(id int, key string) api.Errno {
	if e := m.refusal(id); e != api.OK {
		return e
	}
	o := &m.open[m.place(id)]
	if !slices.Contains(o.keys, key) {
		o.keys = append(slices.Clip(o.keys), key)
		slices.Sort(o.keys)
	}
	return api.OK
}

func (m model) test(id int) api.Errno {
	if e := m.refusal(id); e != api.OK {
		return e
	}
	o := m.open[m.place(id)]
	for _, c := range m.commits {
		for _, key := range c.keys {
			if c.at > o.since && slices.Contains(o.keys, key) {
				return api.ErrClash
			}
		}
	}
	if m.high == clock {
		return api.ErrSpace
	}
	return api.OK
}

func (m *model) commit(id int) (int, api.Errno) {
	if e := m.test(id); e != api.OK {
		return 0, e
	}
	at := m.high + 1
	if m.clock > at {
		at = m.clock
	}
	m.commits = append(m.commits, committed{at, m.open[m.place(id)].keys})
	m.high = at
	m.open = slices.Delete(m.open, m.place(id), m.place(id)+1)
	return at, api.OK
}

func (m *model) end(id int) api.Errno {
	e := m.refusal(id)
	if e == api.OK {
		m.open = slices.Delete(m.open, m.place(id), m.place(id)+1)
	}
	return e
}

func (m model) whole() string {
	oldest, some := 0, false
	for _, o := range m.open {
		if !some || o.since < oldest {
			oldest, some = o.since, true
		}
	}
	text := fmt.Sprint(m.clock, m.high, oldest, some)
	for id := -1; id <= sessions; id++ {
		var o opened
		if place := m.place(id); place >= 0 {
			o = m.open[place]
		}
		text += fmt.Sprintf("; %d %t %d %t %q %d", id, m.place(id) >= 0, o.since, m.place(id) >= 0, o.keys, m.test(id))
	}
	return text
}

// step does one thing to both; their answers must be one.
func step(t *testing.T, m *txn.Manager, n *model, what, id int, key string, ticks int) {
	t.Helper()
	var got, wanted string
	switch what {
	case 0:
		m.Tick(ticks)
		n.tick(ticks)
	case 1:
		at, e := m.Begin(id)
		own, errno := n.begin(id)
		got, wanted = fmt.Sprint(at, e), fmt.Sprint(own, errno)
	case 2:
		got, wanted = fmt.Sprint(m.Write(id, key)), fmt.Sprint(n.write(id, key))
	case 3:
		at, e := m.Commit(id)
		own, errno := n.commit(id)
		got, wanted = fmt.Sprint(at, e), fmt.Sprint(own, errno)
	case 4:
		got, wanted = fmt.Sprint(m.End(id)), fmt.Sprint(n.end(id))
	}
	if got != wanted {
		t.Fatalf("step %d of %d, with %q and %d = %s, not %s; %v", what, id, key, ticks, got, wanted, n)
	}
}

type thing struct {
	what, id int
	key      string
	ticks    int
}

func agree(t *testing.T, m *txn.Manager, n model) {
	t.Helper()
	if got, wanted := whole(m), n.whole(); got != wanted {
		t.Fatalf("there is %s, not %s; %v", got, wanted, n)
	}
}

// All runs of a few steps of two, from an instant on; each step is done to a fork, so that none of them is seen in another run.
func TestP22_1AllShortRuns(t *testing.T) {
	things := []thing{{0, 0, "", 1}, {0, 0, "", 3}, {1, 0, "", 0}, {1, 1, "", 0}, {2, 0, "a", 0}, {2, 1, "a", 0}, {2, 1, "b", 0}, {3, 0, "", 0}, {3, 1, "", 0}, {4, 0, "", 0}}
	tried := 0
	var play func(m *txn.Manager, n model, more int)
	play = func(m *txn.Manager, n model, more int) {
		tried++
		agree(t, m, n)
		if more == 0 {
			return
		}
		for _, x := range things {
			fork, modelFork := m.Fork(), n.fork()
			step(t, fork, &modelFork, x.what, x.id, x.key, x.ticks)
			play(fork, modelFork, more-1)
		}
		agree(t, m, n)
	}
	for _, at := range []int{0, clock - 2} {
		m, n := txn.New(at), modelAt(at)
		play(m, n, 3)
		// Where both have begun, short runs do more.
		step(t, m, &n, 1, 0, "", 0)
		step(t, m, &n, 1, 1, "", 0)
		play(m, n, 5)
	}
	if tried != 2*(1111+111111) {
		t.Errorf("%d runs were tried", tried)
	}
}

type dice struct{ seed uint64 }

func (d *dice) below(n int) int {
	d.seed = d.seed*6364136223846793005 + 1442695040888963407
	return int(d.seed >> 33 % uint64(n))
}

// event is a begin, or a commit with its keys, that was answered with OK.
type event struct {
	commit bool
	at     int
	keys   []string
}

// Long runs of all sessions; what follows (P22.3 to P22.5) is asked of what was answered.
func TestP22_3LongRuns(t *testing.T) {
	d := &dice{seed: 4}
	clashes, commits := 0, 0
	for run := range 60 {
		at := []int{0, 7, clock - 40, -3}[run%4]
		m, n := txn.New(at), modelAt(max(at, 0))
		begun := map[int]int{}
		var events []event
		for range 250 {
			x := thing{[]int{0, 1, 1, 2, 2, 2, 3, 3, 4}[d.below(9)], d.below(sessions+2) - 1, string(rune('a' + d.below(8))), d.below(4) - 1}
			fork := n.fork()
			keys := m.Writes(x.id)
			may := m.Test(x.id)
			step(t, m, &n, x.what, x.id, x.key, x.ticks)
			agree(t, m, n)
			switch {
			case x.what == 1 && fork.refusal(x.id) == api.ErrState:
				begun[x.id] = len(events)
				events = append(events, event{at: m.High()})
			case x.what == 3 && fork.refusal(x.id) == api.OK:
				follows(t, events, begun[x.id], keys, may, n.high == clock)
				if may == api.OK {
					events = append(events, event{commit: true, at: m.High(), keys: keys})
					commits++
				} else if may == api.ErrClash {
					clashes++
				}
			}
		}
		rises(t, events)
	}
	if clashes < 100 || commits < 500 {
		t.Errorf("only %d clashes and %d commits", clashes, commits)
	}
}

// rises is P22.3: commits' instants rise, each above all begins ahead of it.
func rises(t *testing.T, events []event) {
	t.Helper()
	for i, x := range events {
		for _, y := range events[:i] {
			if x.commit && y.at >= x.at || x.at > clock {
				t.Fatalf("a commit at %d, behind %v", x.at, y)
			}
		}
	}
}

// follows is P22.4 and P22.5: of two that are open together and write one key at most one commits; who writes nothing that another one wrote meanwhile commits.
func follows(t *testing.T, events []event, begun int, keys []string, answer api.Errno, full bool) {
	t.Helper()
	meanwhile := false
	for _, x := range events[begun:] {
		for _, key := range x.keys {
			meanwhile = meanwhile || slices.Contains(keys, key)
		}
	}
	switch {
	case meanwhile && answer != api.ErrClash:
		t.Fatalf("one that wrote %q, which another one committed meanwhile, is answered %d; %v", keys, answer, events)
	case !meanwhile && answer != api.OK && !(full && answer == api.ErrSpace):
		t.Fatalf("one that wrote %q, which nobody else did, is answered %d; %v", keys, answer, events)
	}
}
