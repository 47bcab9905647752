package disk_test

import (
	"bytes"
	"fmt"
	"math"
	"math/rand"
	"slices"
	"testing"

	"regesta/api"
	"regesta/disk"
)

// The calls are those of the chapter.
var (
	_ func(int) *disk.Disk                      = disk.New
	_ func(*disk.Disk) int                      = (*disk.Disk).Size
	_ func(*disk.Disk, int, []byte) api.Errno   = (*disk.Disk).Write
	_ func(*disk.Disk, int) ([]byte, api.Errno) = (*disk.Disk).Read
	_ func(*disk.Disk) api.Errno                = (*disk.Disk).Flush
	_ func(*disk.Disk, int)                     = (*disk.Disk).Cut
	_ func(*disk.Disk) bool                     = (*disk.Disk).Off
	_ func(*disk.Disk) int                      = (*disk.Disk).Waiting
	_ func(*disk.Disk, []bool)                  = (*disk.Disk).Crash
	_ func(*disk.Disk) *disk.Disk               = (*disk.Disk).Fork
)

// full are a sector's bytes that begin so, and are 0 behind.
func full(b ...byte) []byte {
	return append(slices.Clone(b), make([]byte, api.SectorSize-len(b))...)
}

func same(n int, b byte) []byte { return bytes.Repeat([]byte{b}, n) }

func read(t *testing.T, d *disk.Disk, i int) []byte {
	t.Helper()
	b, errno := d.Read(i)
	if errno != api.OK {
		t.Fatalf("Read(%d): %d", i, errno)
	}
	return b
}

func reads(t *testing.T, d *disk.Disk, i int, want []byte) {
	t.Helper()
	if b := read(t, d, i); !bytes.Equal(b, want) {
		t.Errorf("sector %d is %v, not %v", i, b, want)
	}
}

func is(t *testing.T, what string, got, want api.Errno) {
	t.Helper()
	if got != want {
		t.Errorf("%s: %d, not %d", what, got, want)
	}
}

// model is the chapter's words, as slowly as they are said: all Writes since the beginning, and of each whether it waits, is in its sector, or is gone.
type model struct {
	size   int
	writes []modelWrite
	off    bool
	let    []struct{} // one for each Write and Flush that is still done
	cut    bool
}

type modelWrite struct {
	at   int
	b    []byte
	fate byte // 'w' waits, 'k' is kept, 'g' is gone
}

func (m *model) fork() *model {
	other := *m
	other.writes = slices.Clone(m.writes)
	return &other
}

func (m *model) step() bool {
	if m.cut && len(m.let) == 0 {
		m.off = true
		return false
	}
	if m.cut {
		m.let = m.let[1:]
	}
	return true
}

func (m *model) write(i int, b []byte) api.Errno {
	switch {
	case m.off:
		return api.ErrState
	case i < 0 || i >= m.size:
		return api.ErrRange
	case len(b) > 64:
		return api.ErrForm
	case !m.step():
		return api.ErrState
	}
	m.writes = append(m.writes, modelWrite{i, full(b...), 'w'})
	return api.OK
}

func (m *model) read(i int) ([]byte, api.Errno) {
	if m.off {
		return nil, api.ErrState
	}
	if i < 0 || i >= m.size {
		return nil, api.ErrRange
	}
	out := full()
	for _, fate := range []byte("kw") {
		for _, w := range m.writes {
			if w.at == i && w.fate == fate {
				out = w.b
			}
		}
	}
	return out, api.OK
}

func (m *model) flush() api.Errno {
	if m.off || !m.step() {
		return api.ErrState
	}
	m.end(func(int) bool { return true })
	return api.OK
}

func (m *model) end(kept func(int) bool) {
	nth := 0
	for i := range m.writes {
		if m.writes[i].fate == 'w' {
			m.writes[i].fate = 'g'
			if kept(nth) {
				m.writes[i].fate = 'k'
			}
			nth++
		}
	}
}

func (m *model) waiting() int {
	n := 0
	for _, w := range m.writes {
		if w.fate == 'w' {
			n++
		}
	}
	return n
}

func (m *model) doCut(n int) {
	if m.off {
		return
	}
	m.cut = true
	m.let = make([]struct{}, max(n, 0))
}

func (m *model) crash(keep []bool) {
	m.end(func(i int) bool { return i < len(keep) && keep[i] })
	m.off, m.cut = false, false
}

// agree holds all that a disk tells against the model.
func agree(t *testing.T, told string, d *disk.Disk, m *model) {
	t.Helper()
	if d.Size() != m.size || d.Off() != m.off || d.Waiting() != m.waiting() {
		t.Fatalf("%s: Size %d, Off %v, Waiting %d, not %d, %v, %d", told, d.Size(), d.Off(), d.Waiting(), m.size, m.off, m.waiting())
	}
	for i := -1; i <= m.size; i++ {
		got, errno := d.Read(i)
		want, wanted := m.read(i)
		if errno != wanted || !bytes.Equal(got, want) {
			t.Fatalf("%s: Read(%d) is %v, %d, not %v, %d", told, i, got, errno, want, wanted)
		}
	}
}

// act is one call, on a disk and on the model; it tells whether both answer alike.
type act struct {
	name string
	do   func(*disk.Disk, *model) bool
}

func writing(i int, b []byte) act {
	return act{fmt.Sprintf("Write(%d, %d bytes)", i, len(b)), func(d *disk.Disk, m *model) bool { return d.Write(i, b) == m.write(i, b) }}
}

func flushing() act {
	return act{"Flush", func(d *disk.Disk, m *model) bool { return d.Flush() == m.flush() }}
}

func cutting(n int) act {
	return act{fmt.Sprintf("Cut(%d)", n), func(d *disk.Disk, m *model) bool { d.Cut(n); m.doCut(n); return true }}
}

func crashing(keep ...bool) act {
	return act{fmt.Sprintf("Crash(%v)", keep), func(d *disk.Disk, m *model) bool { d.Crash(keep); m.crash(keep); return true }}
}

func TestNew(t *testing.T) {
	for n := -3; n <= api.MaxSectors+3; n++ {
		d := disk.New(n)
		if (d != nil) != (n >= 1 && n <= api.MaxSectors) {
			t.Errorf("New(%d) is nil: %v", n, d == nil)
		}
		if d != nil {
			agree(t, fmt.Sprint("New ", n), d, &model{size: n})
		}
	}
	for _, n := range []int{math.MinInt, math.MaxInt, 1 << 20, 1<<32 + 1, 1000, 256, 257} {
		if disk.New(n) != nil {
			t.Errorf("New(%d)", n)
		}
	}
}

func TestExamples(t *testing.T) {
	d := disk.New(1)
	is(t, "Write", d.Write(0, []byte{7}), api.OK)
	d.Crash(nil)
	reads(t, d, 0, full())

	d.Cut(1)
	is(t, "first Write", d.Write(0, []byte{7}), api.OK)
	if d.Off() {
		t.Error("off ahead of the Write that is not done")
	}
	is(t, "second Write", d.Write(0, []byte{7}), api.ErrState)
	if !d.Off() {
		t.Error("not off")
	}
}

func TestWriteOfAnyLength(t *testing.T) {
	for n := 0; n <= api.SectorSize+2; n++ {
		d := disk.New(3)
		is(t, "Write ahead", d.Write(1, same(api.SectorSize, 9)), api.OK)
		is(t, "Flush", d.Flush(), api.OK)
		errno := d.Write(1, same(n, 5))
		if n > api.SectorSize {
			is(t, "Write of too many", errno, api.ErrForm)
			reads(t, d, 1, same(api.SectorSize, 9))
			continue
		}
		is(t, "Write", errno, api.OK)
		reads(t, d, 1, full(same(n, 5)...))
		is(t, "Flush", d.Flush(), api.OK)
		reads(t, d, 1, full(same(n, 5)...))
		reads(t, d, 0, full())
		reads(t, d, 2, full())
	}
	d := disk.New(1)
	is(t, "nil", d.Write(0, nil), api.OK)
	is(t, "very many", d.Write(0, make([]byte, 1<<20)), api.ErrForm)
	if d.Waiting() != 1 {
		t.Error("a Write of no byte waits, one of too many does not:", d.Waiting())
	}
}

func TestSectorsThatAreAndAreNot(t *testing.T) {
	for _, n := range []int{1, 2, 3, api.MaxSectors - 1, api.MaxSectors} {
		d := disk.New(n)
		for _, i := range []int{-1, n, n + 1, -n, math.MinInt, math.MaxInt, 1 << 32} {
			is(t, "Write beyond", d.Write(i, []byte{1}), api.ErrRange)
			if b, errno := d.Read(i); errno != api.ErrRange || len(b) != 0 {
				t.Errorf("Read(%d) of %d: %v, %d", i, n, b, errno)
			}
		}
		for i := range n {
			is(t, "Write", d.Write(i, []byte{byte(i), 1}), api.OK)
		}
		if d.Waiting() != n {
			t.Error("Waiting", d.Waiting(), n)
		}
		is(t, "Flush", d.Flush(), api.OK)
		for i := range n {
			reads(t, d, i, full(byte(i), 1))
		}
	}
}

// Of several errors the first one that is named is told, and nothing is spent by a Write that is refused for its arguments.
func TestErrorsInOrder(t *testing.T) {
	long := make([]byte, api.SectorSize+1)
	d := disk.New(2)
	is(t, "no sector, and too many bytes", d.Write(2, long), api.ErrRange)
	d.Cut(0)
	is(t, "no sector, and cut", d.Write(-1, nil), api.ErrRange)
	is(t, "too many bytes, and cut", d.Write(1, long), api.ErrForm)
	if d.Off() {
		t.Error("a Write that may not be puts the disk off")
	}
	is(t, "cut", d.Write(1, nil), api.ErrState)
	if !d.Off() {
		t.Error("not off")
	}
	is(t, "off, and no sector", d.Write(2, long), api.ErrState)
	is(t, "off, and too many bytes", d.Write(0, long), api.ErrState)
	is(t, "off, Flush", d.Flush(), api.ErrState)
	for _, i := range []int{-1, 0, 2} {
		if b, errno := d.Read(i); errno != api.ErrState || len(b) != 0 {
			t.Error("off, Read", i, b, errno)
		}
	}
	if d.Size() != 2 || d.Waiting() != 0 {
		t.Error("off:", d.Size(), d.Waiting())
	}
}

func TestNil(t *testing.T) {
	var d *disk.Disk
	long := make([]byte, api.SectorSize+1)
	is(t, "Write", d.Write(0, nil), api.ErrNil)
	is(t, "Write beyond", d.Write(-1, long), api.ErrNil)
	is(t, "Flush", d.Flush(), api.ErrNil)
	if b, errno := d.Read(0); errno != api.ErrNil || len(b) != 0 {
		t.Error("Read", b, errno)
	}
	d.Cut(0)
	d.Crash(nil)
	d.Crash([]bool{true})
	if d.Size() != 0 || d.Off() || d.Waiting() != 0 || d.Fork() != nil {
		t.Error("nil")
	}
}

func TestReadTellsTheLastWriteThatWaits(t *testing.T) {
	d := disk.New(2)
	d.Write(0, []byte{1})
	d.Flush()
	d.Write(0, []byte{2, 2})
	d.Write(1, []byte{8})
	d.Write(0, []byte{3})
	reads(t, d, 0, full(3))
	reads(t, d, 1, full(8))
	other := d.Fork()
	d.Crash(nil)
	reads(t, d, 0, full(1))
	reads(t, d, 1, full())
	is(t, "Flush", other.Flush(), api.OK)
	reads(t, other, 0, full(3))
	reads(t, other, 1, full(8))
}

// All crashes of five Writes to two sectors: of those that are kept the last one is in the sector, whatever stands behind keep's end.
func TestCrashKeepsWhatItIsTold(t *testing.T) {
	begun := disk.New(2)
	begun.Write(0, []byte{100})
	begun.Write(1, []byte{101})
	begun.Flush()
	at := []int{0, 1, 0, 0, 1}
	for i, s := range at {
		begun.Write(s, []byte{byte(i + 1)})
	}
	for mask := range 1 << len(at) {
		for long := 0; long <= len(at)+2; long++ {
			keep := make([]bool, long)
			want := [2]byte{100, 101}
			for i := range long {
				keep[i] = i >= len(at) || mask>>i&1 == 1
				if keep[i] && i < len(at) {
					want[at[i]] = byte(i + 1)
				}
			}
			d := begun.Fork()
			if long%2 == 1 {
				d.Cut(0)
				d.Flush()
			}
			d.Crash(keep)
			reads(t, d, 0, full(want[0]))
			reads(t, d, 1, full(want[1]))
			if d.Waiting() != 0 || d.Off() {
				t.Fatal(mask, long, d.Waiting(), d.Off())
			}
			d.Crash(bools(9, true))
			reads(t, d, 0, full(want[0]))
		}
	}
}

func bools(n int, b bool) []bool { return slices.Repeat([]bool{b}, n) }

// P5.5, and that a Flush is let as a Write is.
func TestCutDoesNoMoreThanItWasLet(t *testing.T) {
	for n := -3; n <= 6; n++ {
		for mask := range 1 << 7 {
			d := disk.New(1)
			d.Cut(n)
			if d.Off() {
				t.Fatal("off by a Cut")
			}
			for i := range 7 {
				var errno api.Errno
				if mask>>i&1 == 1 {
					errno = d.Flush()
				} else {
					errno = d.Write(0, []byte{byte(i + 1)})
				}
				done := i < max(n, 0)
				if (errno == api.OK) != done || !done && errno != api.ErrState || d.Off() != !done {
					t.Fatalf("Cut(%d), %b: call %d: %d, off: %v", n, mask, i, errno, d.Off())
				}
			}
		}
	}
}

func TestCutAgain(t *testing.T) {
	d := disk.New(1)
	d.Cut(0)
	d.Cut(2)
	is(t, "1", d.Write(0, nil), api.OK)
	d.Cut(1)
	is(t, "2", d.Flush(), api.OK)
	is(t, "3", d.Flush(), api.ErrState)
	d.Cut(5)
	is(t, "a Cut of a disk that is off", d.Flush(), api.ErrState)
	if !d.Off() {
		t.Error("a Cut turns it on")
	}
	d.Crash(nil)
	for range 20 {
		is(t, "a Crash leaves no Cut", d.Flush(), api.OK)
	}
	d.Cut(math.MaxInt)
	is(t, "a Cut far away", d.Flush(), api.OK)
	d.Cut(math.MinInt)
	is(t, "a Cut far below", d.Flush(), api.ErrState)
	d.Crash(nil)
	d.Cut(0)
	reads(t, d, 0, full())
	if d.Off() {
		t.Error("a Read counts")
	}
	d.Crash(nil)
	is(t, "a Crash of a disk that is cut, and not off", d.Write(0, nil), api.OK)
}

// P5.3: Writes that are flushed stay, behind all crashes of those since.
func TestWhatWasFlushedStays(t *testing.T) {
	for _, keep := range [][]bool{nil, {}, {false}, {true}, bools(4, true), {false, true}} {
		d := disk.New(4)
		for i := range 4 {
			d.Write(i, same(64, byte(i+1)))
		}
		is(t, "Flush", d.Flush(), api.OK)
		d.Write(3, []byte{77})
		d.Cut(0)
		is(t, "Flush", d.Flush(), api.ErrState)
		for range 3 {
			d.Crash(keep)
			for i := range 3 {
				reads(t, d, i, same(64, byte(i+1)))
			}
		}
	}
}

// What a refused Flush leaves waits still, and may be kept.
func TestFlushThatIsNotDoneFlushesNothing(t *testing.T) {
	for _, kept := range []bool{false, true} {
		d := disk.New(1)
		d.Write(0, []byte{5})
		d.Cut(0)
		is(t, "Flush", d.Flush(), api.ErrState)
		if d.Waiting() != 1 {
			t.Error("Waiting", d.Waiting())
		}
		d.Crash([]bool{kept})
		if kept {
			reads(t, d, 0, full(5))
		} else {
			reads(t, d, 0, full())
		}
	}
}

// All calls of a small disk, one behind the other, each from a Fork; the one that was forked must tell the same as ahead of it.
func TestAllShortRunsAgainstTheModel(t *testing.T) {
	acts := []act{
		writing(0, []byte{1}), writing(0, []byte{2, 2}), writing(1, same(64, 3)), writing(1, nil), writing(2, nil), writing(0, same(65, 4)),
		flushing(), cutting(-1), cutting(1), cutting(2), crashing(), crashing(true), crashing(false, true), crashing(true, true, true, true),
	}
	var walk func(told string, d *disk.Disk, m *model, depth int)
	walk = func(told string, d *disk.Disk, m *model, depth int) {
		agree(t, told, d, m)
		if depth == 0 {
			return
		}
		for _, a := range acts {
			e, n := d.Fork(), m.fork()
			if !a.do(e, n) {
				t.Fatalf("%s, %s: another answer", told, a.name)
			}
			walk(told+", "+a.name, e, n, depth-1)
		}
		agree(t, told+", behind all that became of its Forks", d, m)
	}
	walk("New", disk.New(2), &model{size: 2}, 4)
}

func TestLongRunsAgainstTheModel(t *testing.T) {
	r := rand.New(rand.NewSource(5))
	for run := range 60 {
		size := 1 + r.Intn(5)
		if run%20 == 0 {
			size = api.MaxSectors
		}
		d, m := disk.New(size), &model{size: size}
		for step := range 150 {
			a := randomAct(r, size)
			if r.Intn(8) == 0 { // what becomes of the one that is left changes nothing
				old := d
				d = d.Fork()
				old.Write(0, same(64, 250))
				old.Crash([]bool{true, true})
				old.Write(0, nil)
			}
			if !a.do(d, m) {
				t.Fatal(run, step, a.name)
			}
			agree(t, fmt.Sprint(run, step, a.name), d, m)
		}
	}
}

func randomAct(r *rand.Rand, size int) act {
	switch r.Intn(12) {
	case 0:
		return cutting(r.Intn(8) - 1)
	case 1, 2:
		return flushing()
	case 3:
		keep := make([]bool, r.Intn(10))
		for i := range keep {
			keep[i] = r.Intn(2) == 0
		}
		return crashing(keep...)
	}
	b := make([]byte, r.Intn(67))
	r.Read(b)
	return writing(r.Intn(size+2)-1, b)
}

// P5.4, told without the model: a sector behind a crash is one of those that it may be.
func TestBehindACrashEachSectorIsOneThatWas(t *testing.T) {
	r := rand.New(rand.NewSource(54))
	for range 400 {
		size := 1 + r.Intn(4)
		d := disk.New(size)
		may := make([][][]byte, size)
		for i := range may {
			may[i] = [][]byte{full()}
		}
		for range 4 {
			d.Cut(r.Intn(12))
			for !d.Off() {
				i, b := r.Intn(size), full(byte(r.Intn(256)), byte(r.Intn(256)))
				if d.Write(i, b) == api.OK {
					may[i] = append(may[i], b)
				}
				if r.Intn(4) == 0 && d.Flush() == api.OK {
					for i := range may {
						may[i] = may[i][len(may[i])-1:]
					}
				}
			}
			keep := make([]bool, d.Waiting())
			for i := range keep {
				keep[i] = r.Intn(2) == 0
			}
			d.Crash(keep)
			for i := range size {
				b := read(t, d, i)
				if !slices.ContainsFunc(may[i], func(x []byte) bool { return bytes.Equal(x, b) }) {
					t.Fatalf("sector %d is %v, which it may not be", i, b)
				}
				may[i] = [][]byte{b}
			}
		}
	}
}

// P3: neither what is handed in nor what is answered lies in the disk, and what is handed in stays as it is.
func TestListsAreNotShared(t *testing.T) {
	d := disk.New(2)
	room := same(80, 6)
	b := room[:10]
	is(t, "Write", d.Write(0, b), api.OK)
	if !bytes.Equal(room, same(80, 6)) {
		t.Error("Write changes what it is handed, or what lies behind")
	}
	b[0] = 1
	reads(t, d, 0, full(same(10, 6)...))

	for range 2 {
		got, again := read(t, d, 0), read(t, d, 0)
		for i := range cap(got) {
			got[:cap(got)][i] = 99
		}
		if !bytes.Equal(again, full(same(10, 6)...)) {
			t.Error("two Reads share")
		}
		reads(t, d, 0, full(same(10, 6)...))
		is(t, "Flush", d.Flush(), api.OK)
	}

	keep := []bool{true, false, true}
	d.Write(1, []byte{1})
	d.Crash(keep[:1])
	if !slices.Equal(keep, []bool{true, false, true}) {
		t.Error("Crash changes keep")
	}
}

// P4: waiting Writes, sectors, the Cut and being off are all of one disk alone.
func TestForkIsApart(t *testing.T) {
	d := disk.New(2)
	d.Write(0, []byte{1})
	d.Flush()
	d.Write(0, []byte{2})
	d.Write(1, []byte{3})
	d.Cut(3)
	a, b := d.Fork(), d.Fork()

	is(t, "a", a.Write(0, []byte{4}), api.OK)
	is(t, "b", b.Write(0, []byte{5}), api.OK)
	reads(t, a, 0, full(4))
	reads(t, b, 0, full(5))
	reads(t, d, 0, full(2))

	is(t, "a", a.Flush(), api.OK)
	is(t, "a", a.Flush(), api.OK)
	is(t, "a", a.Flush(), api.ErrState)
	if !a.Off() || b.Off() || d.Off() || d.Waiting() != 2 || b.Waiting() != 3 {
		t.Error("off, or waiting")
	}
	c := a.Fork()
	if !c.Off() || c.Size() != 2 {
		t.Error("a Fork of a disk that is off")
	}
	c.Crash(nil)
	reads(t, c, 0, full(4))
	if !a.Off() {
		t.Error("a Crash of the Fork")
	}

	d.Crash([]bool{true})
	reads(t, d, 0, full(2))
	reads(t, d, 1, full())
	b.Crash(nil)
	reads(t, b, 0, full(1))
}

// However many Writes wait, those that come behind a Fork are of one disk alone.
func TestForkWithWritesThatWait(t *testing.T) {
	for n := range 20 {
		d := disk.New(2)
		for i := range n {
			d.Write(0, []byte{byte(i)})
		}
		a, b := d.Fork(), d.Fork()
		for i, x := range []*disk.Disk{a, d, b} {
			is(t, "Write", x.Write(1, []byte{byte(100 + i)}), api.OK)
		}
		for i, x := range []*disk.Disk{a, d, b} {
			reads(t, x, 1, full(byte(100+i)))
			x.Crash(bools(n+1, true))
			reads(t, x, 1, full(byte(100+i)))
		}
	}
}

// P6: the same calls answer the same, whatever other disks there are.
func TestNothingIsKeptBetweenDisks(t *testing.T) {
	run := func() []byte {
		d := disk.New(3)
		d.Write(0, []byte{1})
		d.Write(2, []byte{2})
		d.Crash([]bool{false, true})
		d.Write(1, []byte{3})
		return slices.Concat(read(t, d, 0), read(t, d, 1), read(t, d, 2), []byte{byte(d.Waiting())})
	}
	first := run()
	other := disk.New(3)
	other.Write(0, same(64, 200))
	other.Flush()
	other.Cut(0)
	other.Flush()
	if !bytes.Equal(first, run()) {
		t.Error("another answer")
	}
}
