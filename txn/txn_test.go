package txn_test

import (
	"fmt"
	"math"
	"slices"
	"testing"

	"regesta/api"
	"regesta/txn"
)

// The calls are those of the chapter.
var (
	_ func(at int) *txn.Manager                         = txn.New
	_ func(*txn.Manager, int)                           = (*txn.Manager).Tick
	_ func(*txn.Manager, int) (int, api.Errno)          = (*txn.Manager).Begin
	_ func(*txn.Manager, int, string) api.Errno         = (*txn.Manager).Write
	_ func(*txn.Manager, int) api.Errno                 = (*txn.Manager).Test
	_ func(*txn.Manager, int) (at int, errno api.Errno) = (*txn.Manager).Commit
	_ func(*txn.Manager, int) api.Errno                 = (*txn.Manager).End
	_ func(*txn.Manager) int                            = (*txn.Manager).Clock
	_ func(*txn.Manager) int                            = (*txn.Manager).High
	_ func(*txn.Manager, int) bool                      = (*txn.Manager).Open
	_ func(*txn.Manager, int) (int, bool)               = (*txn.Manager).Since
	_ func(*txn.Manager) (int, bool)                    = (*txn.Manager).Oldest
	_ func(*txn.Manager, int) []string                  = (*txn.Manager).Writes
	_ func(*txn.Manager) *txn.Manager                   = (*txn.Manager).Fork
)

const (
	clock    = 1 << 30
	sessions = 4
)

// nobody are numbers that no session has.
func nobody() []int { return []int{-1, -7, math.MinInt, sessions, sessions + 1, math.MaxInt} }

// whole is all that is told, as a text: also who may commit.
func whole(m *txn.Manager) string {
	at, some := m.Oldest()
	text := fmt.Sprint(m.Clock(), m.High(), at, some)
	for id := -1; id <= sessions; id++ {
		since, open := m.Since(id)
		text += fmt.Sprintf("; %d %t %d %t %q %d", id, m.Open(id), since, open, m.Writes(id), m.Test(id))
	}
	return text
}

func want(t *testing.T, call string, got, want any) {
	t.Helper()
	if a, b := fmt.Sprint(got), fmt.Sprint(want); a != b {
		t.Fatalf("%s = %s, not %s", call, a, b)
	}
}

func begin(t *testing.T, m *txn.Manager, id, at int) {
	t.Helper()
	if got, e := m.Begin(id); e != api.OK || got != at {
		t.Fatalf("Begin(%d) = %d and %d, not %d", id, got, e, at)
	}
	since, ok := m.Since(id)
	if !m.Open(id) || !ok || since != at || m.High() != at || len(m.Writes(id)) > 0 {
		t.Fatalf("behind Begin(%d) = %d: %s", id, at, whole(m))
	}
}

func write(t *testing.T, m *txn.Manager, id int, keys ...string) {
	t.Helper()
	for _, key := range keys {
		if e := m.Write(id, key); e != api.OK {
			t.Fatalf("Write(%d, %q) = %d", id, key, e)
		}
		if !slices.Contains(m.Writes(id), key) {
			t.Fatalf("behind Write(%d, %q): %q", id, key, m.Writes(id))
		}
	}
}

func commit(t *testing.T, m *txn.Manager, id, at int) {
	t.Helper()
	if e := m.Test(id); e != api.OK {
		t.Fatalf("Test(%d) = %d", id, e)
	}
	now := m.Clock()
	if got, e := m.Commit(id); e != api.OK || got != at {
		t.Fatalf("Commit(%d) = %d and %d, not %d", id, got, e, at)
	}
	if m.High() != at || m.Open(id) || m.Clock() != now || len(m.Writes(id)) > 0 {
		t.Fatalf("behind Commit(%d) = %d: %s", id, at, whole(m))
	}
}

// refused tells whether Test and Commit answer the error, and change nothing.
func refused(t *testing.T, m *txn.Manager, id int, errno api.Errno) {
	t.Helper()
	ahead := whole(m)
	want(t, fmt.Sprintf("Test(%d)", id), m.Test(id), errno)
	at, e := m.Commit(id)
	want(t, fmt.Sprintf("Commit(%d)", id), fmt.Sprint(at, e), fmt.Sprint(0, errno))
	want(t, "what there is", whole(m), ahead)
}

func TestP22_1New(t *testing.T) {
	for at, wanted := range map[int]int{math.MinInt: 0, -clock: 0, -1: 0, 0: 0, 1: 1, 77: 77, clock - 1: clock - 1, clock: clock, clock + 1: clock, 1 << 40: clock, math.MaxInt: clock} {
		m := txn.New(at)
		want(t, fmt.Sprintf("Clock of New(%d)", at), m.Clock(), wanted)
		want(t, fmt.Sprintf("High of New(%d)", at), m.High(), wanted)
		if oldest, ok := m.Oldest(); ok || oldest != 0 {
			t.Errorf("Oldest of New(%d) = %d, %t", at, oldest, ok)
		}
		for id := range sessions {
			since, ok := m.Since(id)
			if m.Open(id) || ok || since != 0 || len(m.Writes(id)) > 0 {
				t.Errorf("%d is open in New(%d)", id, at)
			}
		}
	}
}

func TestP22_1Tick(t *testing.T) {
	m := txn.New(5)
	for _, x := range [][2]int{{0, 5}, {-1, 5}, {math.MinInt, 5}, {1, 6}, {10, 16}, {clock - 17, clock - 1}, {0, clock - 1}, {-clock, clock - 1}, {1, clock}, {1, clock}, {math.MaxInt, clock}, {math.MinInt, clock}, {0, clock}} {
		m.Tick(x[0])
		want(t, fmt.Sprintf("Clock behind Tick(%d)", x[0]), m.Clock(), x[1])
		want(t, "High", m.High(), 5)
	}
	for _, n := range []int{clock, clock - 5, clock - 4, clock + 1, math.MaxInt - 5, math.MaxInt - 4, math.MaxInt} {
		m := txn.New(5)
		m.Tick(n)
		want(t, fmt.Sprintf("Clock behind Tick(%d)", n), m.Clock(), clock)
	}
	// Who is open stays so.
	m = txn.New(1)
	begin(t, m, 0, 1)
	write(t, m, 0, "a")
	m.Tick(5)
	want(t, "all", whole(m), "6 1 1 true; -1 false 0 false [] 2; 0 true 1 true [\"a\"] 0; 1 false 0 false [] 7; 2 false 0 false [] 7; 3 false 0 false [] 7; 4 false 0 false [] 2")
}

func TestP22_1Begin(t *testing.T) {
	m := txn.New(3)
	for _, id := range nobody() {
		ahead := whole(m)
		at, e := m.Begin(id)
		want(t, fmt.Sprintf("Begin(%d)", id), fmt.Sprint(at, e), fmt.Sprint(0, api.ErrRange))
		want(t, "what there is", whole(m), ahead)
	}
	begin(t, m, 0, 3)
	m.Tick(4)
	begin(t, m, 3, 7)
	// One that is open: nothing changes, though the clock has gone on.
	m.Tick(2)
	for _, id := range []int{0, 3} {
		ahead := whole(m)
		at, e := m.Begin(id)
		want(t, fmt.Sprintf("Begin(%d) again", id), fmt.Sprint(at, e), fmt.Sprint(0, api.ErrState))
		want(t, "what there is", whole(m), ahead)
	}
	want(t, "High", m.High(), 7)
	begin(t, m, 1, 9)
	begin(t, m, 2, 9)
}

// A commit may be at an instant above the clock: who begins behind it sees it.
func TestP22_1BeginBehindACommitAboveTheClock(t *testing.T) {
	m := txn.New(0)
	for at := 1; at <= 5; at++ {
		begin(t, m, 0, at-1)
		commit(t, m, 0, at)
	}
	want(t, "Clock", m.Clock(), 0)
	begin(t, m, 0, 5)
	m.Tick(5)
	begin(t, m, 1, 5)
	m.Tick(1)
	begin(t, m, 2, 6)
}

func TestP22_1BeginAtMaxClock(t *testing.T) {
	m := txn.New(clock)
	begin(t, m, 0, clock)
	m.Tick(1)
	begin(t, m, 1, clock)
	refused(t, m, 0, api.ErrSpace)
	want(t, "End", m.End(0), api.OK)
	begin(t, m, 0, clock)
}

func TestP22_1Write(t *testing.T) {
	m := txn.New(3)
	for _, id := range nobody() {
		want(t, fmt.Sprintf("Write(%d)", id), m.Write(id, "a"), api.ErrRange)
	}
	for id := range sessions {
		want(t, fmt.Sprintf("Write(%d)", id), m.Write(id, "a"), api.ErrState)
	}
	begin(t, m, 1, 3)
	write(t, m, 1, "b", "a", "b", "", "b", "\x00", "a\x00", "\xff", "ä", "", "a")
	want(t, "Writes", fmt.Sprintf("%q", m.Writes(1)), fmt.Sprintf("%q", []string{"", "\x00", "a", "a\x00", "b", "ä", "\xff"}))
	// Others write nothing by that.
	for _, id := range []int{0, 2, 3} {
		want(t, fmt.Sprintf("Write(%d)", id), m.Write(id, "a"), api.ErrState)
		want(t, fmt.Sprintf("Writes(%d)", id), m.Writes(id), "[]")
	}
	begin(t, m, 0, 3)
	want(t, "Writes(0)", m.Writes(0), "[]")
	// Long keys, and many.
	long := string(make([]byte, 100000))
	write(t, m, 0, long)
	for i := range 1000 {
		write(t, m, 0, fmt.Sprint(999-i))
	}
	l := m.Writes(0)
	if len(l) != 1001 || l[0] != long || !slices.IsSorted(l) {
		t.Errorf("Writes has %d", len(l))
	}
}

func TestP22_1Example(t *testing.T) {
	m := txn.New(0)
	begin(t, m, 0, 0)
	begin(t, m, 1, 0)
	write(t, m, 0, "a")
	write(t, m, 1, "a")
	commit(t, m, 0, 1)
	refused(t, m, 1, api.ErrClash)
}

func TestP22_1TestAndCommitOfNone(t *testing.T) {
	m := txn.New(3)
	begin(t, m, 2, 3)
	for _, id := range nobody() {
		refused(t, m, id, api.ErrRange)
	}
	for _, id := range []int{0, 1, 3} {
		refused(t, m, id, api.ErrState)
	}
	commit(t, m, 2, 4)
	refused(t, m, 2, api.ErrState)
}

// A commit at the very instant since which one is open was ahead of it; one above it is not; one below it is not either.
func TestP22_1ClashByInstants(t *testing.T) {
	m := txn.New(0)
	begin(t, m, 0, 0)
	begin(t, m, 1, 0)
	write(t, m, 0, "a")
	commit(t, m, 0, 1)
	// Since 1, at which a was written.
	begin(t, m, 0, 1)
	write(t, m, 0, "a")
	// Since 0, below that.
	write(t, m, 1, "a")
	refused(t, m, 1, api.ErrClash)
	// Since 5, above that.
	m.Tick(5)
	begin(t, m, 2, 5)
	write(t, m, 2, "a")
	want(t, "Test of the one since 1", m.Test(0), api.OK)
	want(t, "Test of the one since 5", m.Test(2), api.OK)
	commit(t, m, 0, 6)
	refused(t, m, 2, api.ErrClash)
	refused(t, m, 1, api.ErrClash)
	begin(t, m, 0, 6)
	write(t, m, 0, "a")
	commit(t, m, 0, 7)
}

func TestP22_1ClashByKeys(t *testing.T) {
	for _, x := range []struct {
		first, second []string
		want          api.Errno
	}{
		{nil, nil, api.OK}, {[]string{"a"}, nil, api.OK}, {nil, []string{"a"}, api.OK}, {[]string{"a"}, []string{"b"}, api.OK}, {[]string{"a"}, []string{"a"}, api.ErrClash}, {[]string{"a", "b"}, []string{"c", "d", "b"}, api.ErrClash}, {[]string{"b", "a"}, []string{"a", "x", "y", "z"}, api.ErrClash}, {[]string{""}, []string{""}, api.ErrClash}, {[]string{""}, []string{"a"}, api.OK}, {[]string{"a"}, []string{"", "A", "a\x00", "aa", "\x00a"}, api.OK}, {[]string{"a\x00b"}, []string{"a\x00b"}, api.ErrClash}, {[]string{"\xff"}, []string{"\xfe"}, api.OK}, {[]string{"\xff"}, []string{"\uFFFD"}, api.OK}, {[]string{"t\x00\x01"}, []string{"u\x00\x01"}, api.OK},
	} {
		m := txn.New(0)
		begin(t, m, 0, 0)
		begin(t, m, 1, 0)
		write(t, m, 0, x.first...)
		write(t, m, 1, x.second...)
		commit(t, m, 0, 1)
		if x.want == api.OK {
			commit(t, m, 1, 2)
		} else {
			refused(t, m, 1, x.want)
		}
	}
}

// Which key clashes may be found out late: one that is written behind the other's commit clashes, too; one that goes with End does not.
func TestP22_1ClashLater(t *testing.T) {
	m := txn.New(0)
	begin(t, m, 0, 0)
	begin(t, m, 1, 0)
	begin(t, m, 2, 0)
	write(t, m, 0, "a")
	commit(t, m, 0, 1)
	want(t, "Test", m.Test(1), api.OK)
	write(t, m, 1, "a")
	refused(t, m, 1, api.ErrClash)
	write(t, m, 2, "b")
	want(t, "End", m.End(2), api.OK)
	begin(t, m, 3, 1)
	write(t, m, 3, "b")
	commit(t, m, 3, 2)
	refused(t, m, 1, api.ErrClash)
}

// What was written by one that ended, or was refused, was not committed.
func TestP22_1NoClashWithoutACommit(t *testing.T) {
	m := txn.New(0)
	begin(t, m, 0, 0)
	begin(t, m, 1, 0)
	write(t, m, 0, "a")
	write(t, m, 1, "a")
	want(t, "End", m.End(0), api.OK)
	commit(t, m, 1, 1)
	// The last commit of a key counts, not the first one.
	begin(t, m, 0, 1)
	begin(t, m, 1, 1)
	write(t, m, 0, "a")
	write(t, m, 1, "a")
	commit(t, m, 1, 2)
	refused(t, m, 0, api.ErrClash)
}

func TestP22_1CommitInstants(t *testing.T) {
	m := txn.New(4)
	// The clock is at the highest one.
	begin(t, m, 0, 4)
	commit(t, m, 0, 5)
	// Below it.
	begin(t, m, 0, 5)
	commit(t, m, 0, 6)
	// Again at it.
	m.Tick(2)
	begin(t, m, 0, 6)
	commit(t, m, 0, 7)
	// Above it, by one, and by more.
	begin(t, m, 0, 7)
	m.Tick(2)
	commit(t, m, 0, 8)
	begin(t, m, 0, 8)
	m.Tick(92)
	commit(t, m, 0, 100)
	m.Tick(100)
	begin(t, m, 0, 200)
	commit(t, m, 0, 201)
	want(t, "Clock", m.Clock(), 200)
}

func TestP22_1CommitAtMaxClock(t *testing.T) {
	m := txn.New(clock - 2)
	for id := range sessions {
		begin(t, m, id, clock-2)
	}
	write(t, m, 0, "a")
	write(t, m, 2, "a")
	commit(t, m, 0, clock-1)
	commit(t, m, 1, clock)
	// A clash is told ahead of the lack of space.
	refused(t, m, 2, api.ErrClash)
	refused(t, m, 3, api.ErrSpace)
	refused(t, m, 1, api.ErrState)
	refused(t, m, sessions, api.ErrRange)
	// The clock comes there, but the highest does not: there is one instant left.
	m = txn.New(5)
	begin(t, m, 0, 5)
	begin(t, m, 1, 5)
	m.Tick(math.MaxInt)
	commit(t, m, 0, clock)
	refused(t, m, 1, api.ErrSpace)
	// A begin there takes the last instant.
	m = txn.New(clock - 1)
	begin(t, m, 0, clock-1)
	m.Tick(1)
	want(t, "Test", m.Test(0), api.OK)
	begin(t, m, 1, clock)
	refused(t, m, 0, api.ErrSpace)
	refused(t, m, 1, api.ErrSpace)
}

func TestP22_1End(t *testing.T) {
	m := txn.New(3)
	begin(t, m, 1, 3)
	for _, id := range nobody() {
		ahead := whole(m)
		want(t, fmt.Sprintf("End(%d)", id), m.End(id), api.ErrRange)
		want(t, "what there is", whole(m), ahead)
	}
	for _, id := range []int{0, 2, 3} {
		ahead := whole(m)
		want(t, fmt.Sprintf("End(%d)", id), m.End(id), api.ErrState)
		want(t, "what there is", whole(m), ahead)
	}
	write(t, m, 1, "a", "b")
	want(t, "End(1)", m.End(1), api.OK)
	want(t, "End(1), again,", m.End(1), api.ErrState)
	want(t, "Write behind End", m.Write(1, "c"), api.ErrState)
	want(t, "what there is", fmt.Sprint(m.Open(1), m.Writes(1), m.Clock(), m.High()), "false [] 3 3")
	// Begin behind it is without the keys of before.
	m.Tick(1)
	begin(t, m, 1, 4)
	begin(t, m, 0, 4)
	write(t, m, 0, "a", "b")
	commit(t, m, 0, 5)
	commit(t, m, 1, 6)
	// Behind a commit likewise.
	begin(t, m, 0, 6)
	begin(t, m, 1, 6)
	write(t, m, 1, "a")
	commit(t, m, 1, 7)
	commit(t, m, 0, 8)
}

func TestP22_2Since(t *testing.T) {
	m := txn.New(3)
	begin(t, m, 2, 3)
	m.Tick(4)
	for _, id := range append(nobody(), 0, 1, 3) {
		if since, ok := m.Since(id); ok || since != 0 || m.Open(id) || len(m.Writes(id)) > 0 {
			t.Errorf("%d is open since %d", id, since)
		}
	}
	since, ok := m.Since(2)
	want(t, "Since(2)", fmt.Sprint(since, ok, m.Open(2)), "3 true true")
}

func TestP22_2Oldest(t *testing.T) {
	m := txn.New(0)
	oldest := func(at int, some bool) {
		t.Helper()
		got, ok := m.Oldest()
		want(t, "Oldest", fmt.Sprint(got, ok), fmt.Sprint(at, some))
	}
	oldest(0, false)
	// Since 0, too, one is open.
	begin(t, m, 3, 0)
	oldest(0, true)
	m.Tick(2)
	begin(t, m, 0, 2)
	m.Tick(2)
	begin(t, m, 2, 4)
	begin(t, m, 1, 4)
	oldest(0, true)
	m.End(3)
	oldest(2, true)
	m.Tick(5)
	begin(t, m, 3, 9)
	oldest(2, true)
	commit(t, m, 0, 10)
	oldest(4, true)
	m.End(1)
	oldest(4, true)
	m.End(2)
	oldest(9, true)
	commit(t, m, 3, 11)
	oldest(0, false)
}

func TestP1Nil(t *testing.T) {
	var m *txn.Manager
	m.Tick(5)
	m.Tick(-1)
	for _, id := range append(nobody(), 0, 1, 3) {
		at, e := m.Begin(id)
		done, errno := m.Commit(id)
		if at != 0 || done != 0 || e != api.ErrNil || errno != api.ErrNil || m.Write(id, "a") != api.ErrNil || m.Test(id) != api.ErrNil || m.End(id) != api.ErrNil {
			t.Errorf("of nil, %d has another error", id)
		}
		since, ok := m.Since(id)
		if m.Open(id) || ok || since != 0 || len(m.Writes(id)) > 0 {
			t.Errorf("of nil, %d is open", id)
		}
	}
	at, ok := m.Oldest()
	if at != 0 || ok || m.Clock() != 0 || m.High() != 0 || m.Fork() != nil {
		t.Error("nil has something")
	}
}

func TestP3WritesIsTheCallers(t *testing.T) {
	m := txn.New(0)
	begin(t, m, 0, 0)
	write(t, m, 0, "b", "a", "c")
	first, second := m.Writes(0), m.Writes(0)
	for i := range first[:cap(first)] {
		first[:cap(first)][i] = "scribble"
	}
	want(t, "Writes", m.Writes(0), "[a b c]")
	want(t, "Writes, as it was told,", second, "[a b c]")
	write(t, m, 0, "d")
	want(t, "Writes, as it was told,", second, "[a b c]")
	m.End(0)
	want(t, "Writes, as it was told,", second, "[a b c]")
}

func TestP4Forks(t *testing.T) {
	made := func() *txn.Manager {
		m := txn.New(2)
		begin(t, m, 0, 2)
		begin(t, m, 1, 2)
		write(t, m, 0, "a")
		commit(t, m, 0, 3)
		write(t, m, 1, "b")
		begin(t, m, 2, 3)
		return m
	}
	for name, do := range map[string]func(m *txn.Manager){
		"Tick":                 func(m *txn.Manager) { m.Tick(7) },
		"Begin":                func(m *txn.Manager) { m.Tick(7); m.Begin(3) },
		"Write":                func(m *txn.Manager) { m.Write(1, "a"); m.Write(2, "c") },
		"Commit":               func(m *txn.Manager) { m.Commit(1) },
		"Commit of a key":      func(m *txn.Manager) { m.Write(2, "b"); m.Commit(2) },
		"Commit of a new key":  func(m *txn.Manager) { m.Write(2, "d"); m.Commit(2) },
		"End":                  func(m *txn.Manager) { m.End(1); m.End(2) },
		"End, and Begin again": func(m *txn.Manager) { m.End(1); m.Begin(1); m.Write(1, "z") },
	} {
		m := made()
		ahead := whole(m)
		fork := m.Fork()
		want(t, "a Fork", whole(fork), ahead)
		do(fork)
		want(t, "what was forked, behind "+name+" of the Fork,", whole(m), ahead)
		if whole(fork) == ahead {
			t.Errorf("%s changes nothing", name)
		}
		fork = m.Fork()
		do(m)
		want(t, "the Fork, behind "+name+",", whole(fork), ahead)
		// Which keys were committed shows only in what is written later.
		m = made()
		fork = m.Fork()
		do(fork)
		write(t, m, 1, "d")
		commit(t, m, 1, 4)
	}
	if txn.New(0).Fork() == nil {
		t.Error("Fork is nil")
	}
}

// The fork knows what was committed ahead of it.
func TestP4ForkHasTheCommits(t *testing.T) {
	m := txn.New(0)
	begin(t, m, 0, 0)
	begin(t, m, 1, 0)
	write(t, m, 0, "a")
	write(t, m, 1, "a")
	commit(t, m, 0, 1)
	refused(t, m.Fork(), 1, api.ErrClash)
	refused(t, m.Fork().Fork(), 1, api.ErrClash)
	refused(t, m, 1, api.ErrClash)
}

func TestP6NothingIsKept(t *testing.T) {
	for range 5 {
		m := txn.New(0)
		begin(t, m, 0, 0)
		begin(t, m, 1, 0)
		write(t, m, 0, "a")
		commit(t, m, 0, 1)
		write(t, m, 1, "b")
		commit(t, m, 1, 2)
	}
}
