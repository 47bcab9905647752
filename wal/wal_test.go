package wal_test

import (
	"bytes"
	"fmt"
	"math/rand"
	"slices"
	"testing"

	"regesta/api"
	"regesta/disk"
	"regesta/wal"
)

// The calls are those of the chapter.
var (
	_ func() int                                       = wal.Most
	_ func(*disk.Disk) (*wal.Wal, [][]byte, api.Errno) = wal.Open
	_ func(*wal.Wal, []byte) (int, api.Errno)          = (*wal.Wal).Append
	_ func(*wal.Wal) api.Errno                         = (*wal.Wal).Flush
	_ func(*wal.Wal, []byte) api.Errno                 = (*wal.Wal).Switch
	_ func(*wal.Wal) int                               = (*wal.Wal).Len
	_ func(*wal.Wal) int                               = (*wal.Wal).Left
	_ func(*wal.Wal) int                               = (*wal.Wal).Half
	_ func(*wal.Wal) int                               = (*wal.Wal).Epoch
	_ func(*wal.Wal) bool                              = (*wal.Wal).Broken
)

const (
	room = api.SectorSize - 7
	most = api.MaxPieces * room
)

func is(t *testing.T, what string, got, want api.Errno) {
	t.Helper()
	if got != want {
		t.Errorf("%s: %d, not %d", what, got, want)
	}
}

func open(t *testing.T, d *disk.Disk) (*wal.Wal, [][]byte) {
	t.Helper()
	w, records, errno := wal.Open(d)
	if errno != api.OK || w == nil {
		t.Fatalf("Open: %d", errno)
	}
	return w, records
}

func add(t *testing.T, w *wal.Wal, b []byte, want int) {
	t.Helper()
	if n, errno := w.Append(b); n != want || errno != api.OK {
		t.Fatalf("Append of %d bytes: %d, %d, not %d", len(b), n, errno, want)
	}
}

// tells holds all that a log tells of itself against what it should be.
func tells(t *testing.T, what string, w *wal.Wal, length, left, half, epoch int, broken bool) {
	t.Helper()
	got := fmt.Sprint(w.Len(), w.Left(), w.Half(), w.Epoch(), w.Broken())
	if want := fmt.Sprint(length, left, half, epoch, broken); got != want {
		t.Errorf("%s: Len, Left, Half, Epoch, Broken are %s, not %s", what, got, want)
	}
}

func equal(a, b [][]byte) bool { return slices.EqualFunc(a, b, bytes.Equal) }

func holds(t *testing.T, d *disk.Disk, want ...[]byte) {
	t.Helper()
	if _, records := open(t, d); !equal(records, want) {
		t.Errorf("records are %q, not %q", records, want)
	}
}

// filled are so many bytes, of which each has its neighbours' and its record's mark.
func filled(n int, mark byte) []byte {
	b := make([]byte, n)
	for i := range b {
		b[i] = mark + byte(i%7) + byte(i/room)
	}
	return b
}

func sector(epoch, place, number, of, size int, b ...byte) []byte {
	s := []byte{byte(epoch >> 8), byte(epoch), byte(place >> 8), byte(place), byte(number), byte(of), byte(size)}
	s = append(s, b...)
	return append(s, make([]byte, api.SectorSize-len(s))...)
}

// laid are a record's sectors, by the chapter's words.
func laid(b []byte, epoch, place int) [][]byte {
	all := slices.Collect(slices.Chunk(b, room))
	var out [][]byte
	for i, part := range all {
		out = append(out, sector(epoch, place+i, i, len(all), len(part), part...))
	}
	return out
}

func image(t *testing.T, d *disk.Disk) [][]byte {
	t.Helper()
	var out [][]byte
	for i := range d.Size() {
		b, errno := d.Read(i)
		if errno != api.OK {
			t.Fatal("Read", i, errno)
		}
		out = append(out, b)
	}
	return out
}

func diskOf(t *testing.T, sectors ...[]byte) *disk.Disk {
	t.Helper()
	d := disk.New(len(sectors))
	for i, b := range sectors {
		is(t, "Write", d.Write(i, b), api.OK)
	}
	is(t, "Flush", d.Flush(), api.OK)
	return d
}

// found is what a log of some sectors should be.
type found struct {
	errno             api.Errno
	records           [][]byte
	half, epoch, left int
}

// modelOpen is the chapter's words on sectors, as slowly as they are said: a record stands, if for some number of pieces each of its sectors is what it has to be.
func modelOpen(sectors [][]byte) found {
	epochs := []int{0}
	for _, s := range sectors {
		epochs = append(epochs, int(s[0])*256+int(s[1]))
	}
	greatest := slices.Max(epochs)
	if greatest == 65535 {
		return found{errno: api.ErrSpace}
	}
	n := len(sectors) / 2
	halves := [2][][]byte{sectors[:n], sectors[n:]}
	out := found{epoch: greatest + 1}
	if firstEpoch(halves[0]) < firstEpoch(halves[1]) {
		out.half = 1
	}
	place, epoch := 0, 1
	for {
		b, pieces, e := modelStands(halves[out.half], place)
		if pieces == 0 || e < epoch {
			break
		}
		out.records = append(out.records, b)
		place, epoch = place+pieces, e
	}
	out.left = n - place
	return out
}

func firstEpoch(half [][]byte) int {
	_, _, e := modelStands(half, 0)
	return e
}

func modelStands(half [][]byte, place int) (b []byte, pieces, epoch int) {
	for of := 1; of <= 64 && place+of <= len(half); of++ {
		epoch = int(half[place][0])*256 + int(half[place][1])
		var whole []byte
		right := epoch > 0
		for i, s := range half[place : place+of] {
			size := int(s[6])
			right = right && size <= room && (size == room || i == of-1)
			if right {
				right = bytes.Equal(s[:7], sector(epoch, place+i, i, of, size)[:7])
				whole = append(whole, s[7:7+size]...)
			}
		}
		if right {
			return whole, of, epoch
		}
	}
	return nil, 0, 0
}

func againstModel(t *testing.T, what string, d *disk.Disk) {
	t.Helper()
	want := modelOpen(image(t, d))
	w, records, errno := wal.Open(d)
	if errno != want.errno || !equal(records, want.records) {
		t.Fatalf("%s: Open is %q, %d, not %q, %d", what, records, errno, want.records, want.errno)
	}
	if errno != api.OK {
		if w != nil {
			t.Fatalf("%s: a log beside an error", what)
		}
		return
	}
	tells(t, what, w, len(want.records), want.left, want.half, want.epoch, false)
}

func TestMost(t *testing.T) {
	if wal.Most() != 64*57 || wal.Most() != most {
		t.Error(wal.Most())
	}
}

func TestOpenOfEachSize(t *testing.T) {
	if w, records, errno := wal.Open(nil); w != nil || len(records) != 0 || errno != api.ErrNil {
		t.Error("nil:", w, records, errno)
	}
	for n := 1; n <= api.MaxSectors; n++ {
		d := disk.New(n)
		w, records, errno := wal.Open(d)
		if n%2 == 1 || n < 4 {
			if w != nil || len(records) != 0 || errno != api.ErrRange {
				t.Error(n, w, records, errno)
			}
			continue
		}
		if errno != api.OK || len(records) != 0 {
			t.Fatal(n, records, errno)
		}
		tells(t, fmt.Sprint(n), w, 0, n/2, 0, 1, false)
		if d.Waiting() != 0 {
			t.Error("Open writes")
		}
	}
}

// Of several errors of Open the first one that is named is told.
func TestOpenErrorsInOrder(t *testing.T) {
	last := sector(65535, 0, 0, 1, 1)
	for _, c := range []struct {
		size int
		off  bool
		want api.Errno
	}{{2, false, api.ErrRange}, {5, true, api.ErrRange}, {4, true, api.ErrState}, {4, false, api.ErrSpace}} {
		d := disk.New(c.size)
		d.Write(1, last)
		if c.off {
			d.Cut(0)
			d.Flush()
		}
		if w, records, errno := wal.Open(d); w != nil || len(records) != 0 || errno != c.want {
			t.Errorf("%+v: %v, %v, %d", c, w, records, errno)
		}
	}
}

// The epochs of all sectors count, in whichever half and whatever else is in them.
func TestEpochsOfAllSectors(t *testing.T) {
	for _, epoch := range []int{1, 2, 255, 256, 257, 512, 32768, 65279, 65280, 65534, 65535} {
		for i := range 6 {
			for _, s := range [][]byte{sector(epoch, i%3, 0, 1, 1, 9), sector(epoch, 77, 9, 0, 255), sector(epoch, 0, 0, 0, 0)} {
				d := disk.New(6)
				d.Write(i, s)
				w, records, errno := wal.Open(d)
				if epoch == 65535 {
					if w != nil || len(records) != 0 || errno != api.ErrSpace {
						t.Error(i, w, records, errno)
					}
					continue
				}
				if errno != api.OK || w.Epoch() != epoch+1 {
					t.Error(i, epoch, errno, w.Epoch())
				}
			}
		}
	}
}

func TestExample(t *testing.T) {
	w, _ := open(t, disk.New(4))
	add(t, w, []byte("a"), 0)
	add(t, w, filled(room, 7), 1)
	n, errno := w.Append([]byte("c"))
	if n != 0 || errno != api.ErrFull {
		t.Error(n, errno)
	}
	tells(t, "full", w, 2, 0, 0, 1, false)
}

// P6.2: which bytes are written, in which order, and where.
func TestPiecesOnTheDisk(t *testing.T) {
	for _, n := range []int{1, 2, room - 1, room, room + 1, 2 * room, 2*room + 1, 5 * room} {
		d := disk.New(16)
		w, _ := open(t, d)
		a, b := []byte("first"), filled(n, 30)
		add(t, w, a, 0)
		add(t, w, b, 1)
		want := append(laid(a, 1, 0), laid(b, 1, 1)...)
		if d.Waiting() != len(want) {
			t.Error(n, "Waiting", d.Waiting())
		}
		tells(t, "appended", w, 2, 8-len(want), 0, 1, false)
		for kept := range len(want) + 1 { // the Writes are in order: of the first ones the first sectors come
			f := d.Fork()
			f.Crash(slices.Repeat([]bool{true}, kept))
			for i, s := range image(t, f) {
				due := make([]byte, api.SectorSize)
				if i < kept {
					due = want[i]
				}
				if !bytes.Equal(s, due) {
					t.Fatalf("%d bytes, %d kept: sector %d is %v, not %v", n, kept, i, s, due)
				}
			}
		}

		c := filled(n, 90)
		is(t, "Switch", w.Switch(c), api.OK)
		if d.Waiting() != 0 {
			t.Error("Switch does not flush")
		}
		want = append(append(want, make([][]byte, 8-len(want))...), laid(c, 2, 0)...)
		for i, s := range image(t, d) {
			due := make([]byte, api.SectorSize)
			if i < len(want) && want[i] != nil {
				due = want[i]
			}
			if !bytes.Equal(s, due) {
				t.Fatalf("%d bytes, Switch: sector %d is %v, not %v", n, i, s, due)
			}
		}
	}
}

func TestRecordsOfEachLength(t *testing.T) {
	for n := 1; n <= most; n += 1 + n/40*13 {
		oneLength(t, n)
	}
	for _, n := range []int{most - room - 1, most - room, most - room + 1, most - 1, most} {
		oneLength(t, n)
	}
}

func oneLength(t *testing.T, n int) {
	t.Helper()
	d := disk.New(api.MaxSectors)
	w, _ := open(t, d)
	b := filled(n, 3)
	add(t, w, b, 0)
	left := 64 - (n+56)/57
	tells(t, fmt.Sprint(n), w, 1, left, 0, 1, false)
	is(t, "Flush", w.Flush(), api.OK)
	d.Crash(nil)
	w, records := open(t, d)
	if !equal(records, [][]byte{b}) {
		t.Fatalf("%d bytes: %q", n, records)
	}
	tells(t, fmt.Sprint(n), w, 1, left, 0, 2, false)
	is(t, "Switch", w.Switch(b), api.OK)
	tells(t, fmt.Sprint(n), w, 1, left, 1, 3, false)
	holds(t, d, b)
}

func TestRecordsThatMayNotBe(t *testing.T) {
	d := disk.New(api.MaxSectors)
	w, _ := open(t, d)
	add(t, w, []byte("a"), 0)
	for _, b := range [][]byte{nil, {}, make([]byte, most+1), make([]byte, 1<<20)} {
		n, errno := w.Append(b)
		if n != 0 || errno != api.ErrRange {
			t.Error("Append", len(b), n, errno)
		}
		is(t, "Switch", w.Switch(b), api.ErrRange)
		tells(t, "refused", w, 1, 63, 0, 1, false)
	}
	n, errno := w.Append(make([]byte, most))
	if n != 0 || errno != api.ErrFull {
		t.Error("Append of Most behind another", n, errno)
	}
	if d.Waiting() != 1 {
		t.Error("what is refused is written", d.Waiting())
	}
}

// Each number of sectors that are left, and each that a record needs.
func TestFullHalf(t *testing.T) {
	for half := 2; half <= 5; half++ {
		for used := 0; used <= half; used++ {
			for need := 1; need <= half+2; need++ {
				for _, size := range []int{(need-1)*room + 1, need * room} {
					d := disk.New(2 * half)
					w, _ := open(t, d)
					for i := range used {
						add(t, w, []byte{byte(i)}, i)
					}
					b := filled(size, 40)
					n, errno := w.Append(b)
					if used+need > half {
						if n != 0 || errno != api.ErrFull || d.Waiting() != used {
							t.Error(half, used, need, n, errno)
						}
						tells(t, "full", w, used, half-used, 0, 1, false)
					} else {
						if n != used || errno != api.OK {
							t.Error(half, used, need, n, errno)
						}
						tells(t, "not full", w, used+1, half-used-need, 0, 1, false)
					}
					errno = w.Switch(b)
					if need > half {
						is(t, "Switch", errno, api.ErrFull)
						tells(t, "not switched", w, used, half-used, 0, 1, false)
					} else {
						is(t, "Switch", errno, api.OK)
						tells(t, "switched", w, 1, half-need, 1, 2, false)
					}
				}
			}
		}
	}
}

func TestSwitchToAndFro(t *testing.T) {
	d := disk.New(8)
	w, _ := open(t, d)
	add(t, w, []byte("a"), 0)
	add(t, w, []byte("b"), 1)
	for i := range 9 {
		b := filled(1+i*11, byte(i))
		is(t, "Switch", w.Switch(b), api.OK)
		need := len(laid(b, 1, 0))
		tells(t, "switched", w, 1, 4-need, (i+1)%2, i+2, false)
		holds(t, d, b)
		add(t, w, []byte{byte(i)}, 1)
		add(t, w, []byte{byte(i), 1}, 2)
		tells(t, "appended", w, 3, 2-need, (i+1)%2, i+2, false)
		holds(t, d, b, []byte{byte(i)}, []byte{byte(i), 1})
		if n, errno := w.Append(make([]byte, room*(2-need)+1)); n != 0 || errno != api.ErrFull {
			t.Error("full", n, errno)
		}
	}
	d.Crash(nil)
	holds(t, d, filled(89, 8))
}

func TestOpenGoesOnBehindTheChain(t *testing.T) {
	d := disk.New(12)
	w, _ := open(t, d)
	add(t, w, filled(room+1, 1), 0)
	is(t, "Flush", w.Flush(), api.OK)
	w, _ = open(t, d)
	tells(t, "again", w, 1, 4, 0, 2, false)
	add(t, w, []byte("b"), 1)
	w, records := open(t, d)
	if !equal(records, [][]byte{filled(room+1, 1), []byte("b")}) {
		t.Errorf("%q", records)
	}
	tells(t, "again", w, 2, 3, 0, 3, false)
	if s := image(t, d); !bytes.Equal(s[2], laid([]byte("b"), 2, 2)[0]) {
		t.Error("the second log's epoch or place", s[2])
	}
	is(t, "Switch", w.Switch([]byte("c")), api.OK)
	w, _ = open(t, d)
	tells(t, "again", w, 1, 5, 1, 5, false)
}

func TestLastEpoch(t *testing.T) {
	begin := func(epoch int) (*disk.Disk, *wal.Wal) {
		d := diskOf(t, sector(7, 0, 0, 1, 1, 'a'), nil, nil, sector(epoch-1, 0, 0, 0, 0))
		w, _ := open(t, d)
		tells(t, "begun", w, 1, 1, 0, epoch, false)
		return d, w
	}
	d, w := begin(65535)
	is(t, "Switch", w.Switch([]byte("x")), api.ErrSpace)
	is(t, "Switch of too many", w.Switch(filled(2*room+1, 1)), api.ErrFull)
	is(t, "Switch of none", w.Switch(nil), api.ErrRange)
	tells(t, "no further", w, 1, 1, 0, 65535, false)
	if d.Waiting() != 0 {
		t.Error("written")
	}
	d.Cut(0)
	is(t, "Switch of a disk that is cut", w.Switch([]byte("x")), api.ErrSpace)
	if d.Off() {
		t.Error("the disk is asked")
	}
	d.Cut(9)
	add(t, w, []byte("b"), 1)
	is(t, "Flush", w.Flush(), api.OK)
	if s := image(t, d); !bytes.Equal(s[1], sector(65535, 1, 0, 1, 1, 'b')) {
		t.Error(s[1])
	}
	if _, _, errno := wal.Open(d); errno != api.ErrSpace {
		t.Error(errno)
	}

	d, w = begin(65534)
	is(t, "Switch", w.Switch([]byte("x")), api.OK)
	tells(t, "the last one", w, 1, 1, 1, 65535, false)
	is(t, "Switch again", w.Switch([]byte("y")), api.ErrSpace)
	add(t, w, []byte("z"), 1)
	if s := image(t, d); !bytes.Equal(s[2], sector(65535, 0, 0, 1, 1, 'x')) || !bytes.Equal(s[3], sector(65535, 1, 0, 1, 1, 'z')) {
		t.Error(s)
	}
}

func TestNil(t *testing.T) {
	var w *wal.Wal
	for _, b := range [][]byte{nil, []byte("a"), make([]byte, most+1)} {
		if n, errno := w.Append(b); n != 0 || errno != api.ErrNil {
			t.Error("Append", n, errno)
		}
		is(t, "Switch", w.Switch(b), api.ErrNil)
	}
	is(t, "Flush", w.Flush(), api.ErrNil)
	tells(t, "nil", w, 0, 0, 0, 0, false)
}

// A log is broken at each step at which the disk may go off, and stays as it was but for that; of a Switch the epoch is spent.
func TestDiskGoesOffAtEachStep(t *testing.T) {
	for steps := range 6 {
		d := disk.New(12)
		w, _ := open(t, d)
		add(t, w, []byte("a"), 0)
		b := filled(3*room+1, 5)

		e := d.Fork()
		v, _ := open(t, e)
		e.Cut(steps)
		n, errno := v.Append(b)
		if steps < 4 {
			if n != 0 || errno != api.ErrState || e.Waiting() != 1+steps {
				t.Error("Append", steps, n, errno, e.Waiting())
			}
			tells(t, "Append", v, 1, 5, 0, 2, true)
			staysBroken(t, e, v, "1 5 0 2 true")
		} else {
			if n != 1 || errno != api.OK {
				t.Error("Append", steps, n, errno)
			}
			tells(t, "Append", v, 2, 1, 0, 2, false)
			if errno = v.Flush(); steps == 4 {
				is(t, "Flush", errno, api.ErrState)
				tells(t, "Flush", v, 2, 1, 0, 2, true)
				staysBroken(t, e, v, "2 1 0 2 true")
			} else {
				is(t, "Flush", errno, api.OK)
				tells(t, "Flush", v, 2, 1, 0, 2, false)
			}
		}

		e = d.Fork()
		v, _ = open(t, e)
		e.Cut(steps)
		errno = v.Switch(b)
		if steps < 5 { // four pieces, and the Flush
			is(t, "Switch", errno, api.ErrState)
			tells(t, "Switch", v, 1, 5, 0, 3, true)
			staysBroken(t, e, v, "1 5 0 3 true")
		} else {
			is(t, "Switch", errno, api.OK)
			tells(t, "Switch", v, 1, 2, 1, 3, false)
		}
	}
}

// staysBroken asks all of a broken log, also behind a crash: it does not come back, and leaves the disk alone.
func staysBroken(t *testing.T, d *disk.Disk, w *wal.Wal, told string) {
	t.Helper()
	for range 2 {
		for _, b := range [][]byte{nil, []byte("x"), make([]byte, 7*room), make([]byte, most+1)} {
			if n, errno := w.Append(b); n != 0 || errno != api.ErrState {
				t.Error("broken Append", n, errno)
			}
			is(t, "broken Switch", w.Switch(b), api.ErrState)
		}
		is(t, "broken Flush", w.Flush(), api.ErrState)
		if got := fmt.Sprint(w.Len(), w.Left(), w.Half(), w.Epoch(), w.Broken()); got != told {
			t.Errorf("broken: %s, not %s", got, told)
		}
		d.Crash(nil)
		if d.Waiting() != 0 {
			t.Error("a broken log writes")
		}
	}
}

// A disk that went off by itself breaks the log by its error; a record that may not be does not ask the disk.
func TestArgumentsAreLookedAtAheadOfTheDisk(t *testing.T) {
	d := disk.New(4)
	w, _ := open(t, d)
	add(t, w, []byte("a"), 0)
	d.Cut(0)
	if _, errno := w.Append(nil); errno != api.ErrRange {
		t.Error(errno)
	}
	if _, errno := w.Append(make([]byte, 2*room)); errno != api.ErrFull {
		t.Error(errno)
	}
	is(t, "Switch", w.Switch(make([]byte, 3*room)), api.ErrFull)
	is(t, "Switch", w.Switch(nil), api.ErrRange)
	if w.Broken() || d.Off() {
		t.Error("the disk was asked")
	}
	is(t, "Flush of the disk", d.Flush(), api.ErrState)
	if w.Broken() {
		t.Error("broken by nobody")
	}
	is(t, "Flush", w.Flush(), api.ErrState)
	if !w.Broken() {
		t.Error("not broken")
	}
}

// P3: a record that is handed in or told is nobody else's.
func TestListsAreNotShared(t *testing.T) {
	d := disk.New(16)
	w, _ := open(t, d)
	whole := filled(100, 1)
	b := whole[:60]
	add(t, w, b, 0)
	add(t, w, []byte("next"), 1)
	b[0], b[59] = 200, 200
	want := filled(60, 1)
	holds(t, d, want, []byte("next"))
	whole = filled(100, 1)
	is(t, "Switch", w.Switch(whole[:60]), api.OK)
	if !bytes.Equal(whole, filled(100, 1)) {
		t.Error("what is handed in is changed")
	}
	add(t, w, whole[:60], 1)
	if !bytes.Equal(whole, filled(100, 1)) {
		t.Error("what is handed in is changed")
	}
	whole[3] = 99

	_, first := open(t, d)
	_, second := open(t, d)
	for _, r := range first {
		for i := range r[:cap(r)] {
			r[:cap(r)][i] = 250
		}
		if !equal(second, [][]byte{want, want}) {
			t.Fatal("two answers share, or a record lies on the disk")
		}
	}
	for i, r := range second {
		_ = append(r, 251)
		r[0] = 252
		if i == 0 && !bytes.Equal(second[1], want) {
			t.Error("two records share")
		}
	}
	holds(t, d, want, want)
}

// P4: a log writes on the disk that it was opened on, and on no Fork of it.
func TestForksOfTheDisk(t *testing.T) {
	d := disk.New(8)
	w, _ := open(t, d)
	add(t, w, []byte("a"), 0)
	f := d.Fork()
	v, _ := open(t, f)
	add(t, w, []byte("b"), 1)
	add(t, v, []byte("c"), 1)
	holds(t, d, []byte("a"), []byte("b"))
	holds(t, f, []byte("a"), []byte("c"))
	is(t, "Switch", v.Switch([]byte("e")), api.OK)
	tells(t, "d", w, 2, 2, 0, 1, false)
	tells(t, "f", v, 1, 3, 1, 3, false)
	holds(t, d, []byte("a"), []byte("b"))
	f.Cut(0)
	is(t, "Flush", v.Flush(), api.ErrState)
	is(t, "Flush", w.Flush(), api.OK)
	if w.Broken() || !v.Broken() {
		t.Error("broken")
	}
}

// Two halves of two records each, one more of two pieces in the second one.
func twoHalves() [][]byte {
	first := [][]byte{sector(3, 0, 0, 1, 2, 'a', 'a'), sector(3, 1, 0, 1, 1, 'b'), sector(4, 2, 0, 1, 57, filled(57, 1)...), make([]byte, 64)}
	second := [][]byte{sector(5, 0, 0, 1, 1, 'c')}
	second = append(second, laid(filled(60, 8), 6, 1)...)
	return append(append(first, second...), sector(6, 3, 0, 1, 3, 'd', 'e', 'f'))
}

// A single byte of a head that is another one, and each value that it may have.
func TestEachByteOfEachHead(t *testing.T) {
	againstModel(t, "whole", diskOf(t, twoHalves()...))
	for at := range 8 {
		for i := range 8 {
			for x := range 256 {
				s := twoHalves()
				s[at][i] = byte(x)
				againstModel(t, fmt.Sprint("sector ", at, " byte ", i, " ", x), diskOf(t, s...))
			}
		}
	}
}

// What stands, told without the model.
func TestWhatStands(t *testing.T) {
	none := make([]byte, 64)
	a, b := sector(2, 0, 0, 1, 1, 'a'), sector(2, 1, 0, 1, 1, 'b')
	long := laid(filled(room+3, 1), 2, 0)
	for _, c := range []struct {
		what    string
		sectors [][]byte
		want    [][]byte
		half    int
	}{
		{"nothing", [][]byte{none, none, none, none}, nil, 0},
		{"one", [][]byte{a, none, none, none}, [][]byte{{'a'}}, 0},
		{"two", [][]byte{a, b, none, none}, [][]byte{{'a'}, {'b'}}, 0},
		{"none at place 0", [][]byte{none, b, none, none}, nil, 0},
		{"another place", [][]byte{b, none, none, none}, nil, 0},
		{"another place behind", [][]byte{a, a, none, none}, [][]byte{{'a'}}, 0},
		{"a higher epoch behind", [][]byte{a, sector(300, 1, 0, 1, 1, 'b'), none, none}, [][]byte{{'a'}, {'b'}}, 0},
		{"a lower epoch behind", [][]byte{a, sector(1, 1, 0, 1, 1, 'b'), none, none}, [][]byte{{'a'}}, 0},
		{"no epoch", [][]byte{sector(0, 0, 0, 1, 1, 'a'), none, none, none}, nil, 0},
		{"no epoch behind", [][]byte{a, sector(0, 1, 0, 1, 1, 'b'), none, none}, [][]byte{{'a'}}, 0},
		{"two pieces", [][]byte{long[0], long[1], none, none}, [][]byte{filled(room+3, 1)}, 0},
		{"a first piece alone", [][]byte{long[0], none, none, none}, nil, 0},
		{"a second piece alone", [][]byte{none, long[1], none, none}, nil, 0},
		{"pieces of two epochs", [][]byte{long[0], laid(filled(room+3, 1), 3, 0)[1], none, none}, nil, 0},
		{"pieces that count otherwise", [][]byte{long[0], sector(2, 1, 1, 3, 3, 1, 2, 3), none, none}, nil, 0},
		{"a piece across the halves", [][]byte{a, sector(2, 1, 0, 2, room), sector(2, 2, 1, 2, 1, 'x'), none}, [][]byte{{'a'}}, 0},
		{"a first piece that is not full", [][]byte{sector(2, 0, 0, 2, room-1), sector(2, 1, 1, 2, 1, 'x'), none, none}, nil, 0},
		{"too many bytes", [][]byte{sector(2, 0, 0, 1, room+1), none, none, none}, nil, 0},
		{"no piece", [][]byte{sector(2, 0, 0, 0, 1, 'a'), none, none, none}, nil, 0},
		{"a last piece of no byte", [][]byte{sector(2, 0, 0, 2, room), sector(2, 1, 1, 2, 0), none, none}, [][]byte{make([]byte, room)}, 0},
		{"a record of no byte", [][]byte{sector(2, 0, 0, 1, 0), b, none, none}, [][]byte{{}, {'b'}}, 0},
		{"bytes behind the last one", [][]byte{sector(2, 0, 0, 1, 1, 'a', 'z', 'z'), none, none, none}, [][]byte{{'a'}}, 0},
		{"the other half", [][]byte{none, none, a, b}, [][]byte{{'a'}, {'b'}}, 1},
		{"the half with the greater epoch", [][]byte{a, b, sector(3, 0, 0, 1, 1, 'c'), none}, [][]byte{{'c'}}, 1},
		{"the half with the greater epoch ahead", [][]byte{sector(256, 0, 0, 1, 1, 'c'), none, sector(255, 0, 0, 1, 1, 'd'), none}, [][]byte{{'c'}}, 0},
		{"of two alike the first", [][]byte{a, none, sector(2, 0, 0, 1, 1, 'c'), none}, [][]byte{{'a'}}, 0},
		{"only first records count", [][]byte{a, none, sector(1, 0, 0, 1, 1, 'c'), sector(9, 1, 0, 1, 1, 'd')}, [][]byte{{'a'}}, 0},
		{"a first piece that does not stand counts not", [][]byte{a, none, sector(9, 0, 0, 2, room), none}, [][]byte{{'a'}}, 0},
		{"neither stands", [][]byte{none, b, sector(9, 1, 0, 1, 1, 'c'), none}, nil, 0},
	} {
		d := diskOf(t, c.sectors...)
		w, records := open(t, d)
		if !equal(records, c.want) || w.Half() != c.half || w.Len() != len(c.want) {
			t.Errorf("%s: %q in half %d, not %q in %d", c.what, records, w.Half(), c.want, c.half)
		}
		againstModel(t, c.what, d)
	}
}

// Sectors of all kinds, most of them such that much stands.
func TestSectorsThatHoldAnything(t *testing.T) {
	r := rand.New(rand.NewSource(6))
	deep := 0
	for run := range 20000 {
		half := 2 + r.Intn(6)
		if run%1000 == 0 {
			half = 64
		}
		d := disk.New(2 * half)
		for i := 0; i < 2*half; {
			for _, s := range randomSectors(r, i%half, half) {
				d.Write(i, s)
				i++
			}
		}
		againstModel(t, fmt.Sprint("run ", run), d)
		if _, records, _ := wal.Open(d); len(records) > 2 {
			deep++
		}
	}
	if deep < 500 {
		t.Error("chains of more than two records:", deep)
	}
}

func randomSectors(r *rand.Rand, place, half int) [][]byte {
	if r.Intn(12) == 0 {
		s := make([]byte, r.Intn(65))
		r.Read(s)
		return [][]byte{s}
	}
	epoch := []int{1, 2, 2, 2, 3, 255, 256}[r.Intn(7)]
	out := laid(filled(1+r.Intn(room*min(3, half-place)), byte(r.Intn(256))), epoch, place)
	if r.Intn(6) == 0 {
		s := out[r.Intn(len(out))]
		s[r.Intn(7)] += byte(r.Intn(3)) - 1
	}
	return out
}

// run is a log that is written on, with what it must have behind a crash and what it may have.
type run struct {
	t       *testing.T
	d       *disk.Disk
	w       *wal.Wal
	sure    [][]byte // flushed
	since   [][]byte // appended since
	instead []byte   // of a Switch that the disk cut off
	mark    int
}

// fresh is a record unlike all others.
func (x *run) fresh(n int) []byte {
	x.mark++
	b := bytes.Repeat([]byte{byte(x.mark >> 8), byte(x.mark)}, (n+3)/2)
	return b[:max(n, 2)]
}

func (x *run) append(n int) {
	b := x.fresh(n)
	at, errno := x.w.Append(b)
	switch errno {
	case api.OK:
		if at != len(x.sure)+len(x.since) {
			x.t.Fatal("Append", at)
		}
		x.since = append(x.since, b)
	case api.ErrFull:
		if x.w.Broken() {
			x.t.Fatal("broken, for it is full")
		}
	case api.ErrState:
	default:
		x.t.Fatal("Append", errno)
	}
}

func (x *run) flush() {
	if x.w.Flush() == api.OK {
		x.sure, x.since = append(slices.Clone(x.sure), x.since...), nil
	}
}

func (x *run) switchTo(n int) {
	b := x.fresh(n)
	broken := x.w.Broken()
	switch errno := x.w.Switch(b); errno {
	case api.OK:
		x.sure, x.since = [][]byte{b}, nil
	case api.ErrState:
		if !broken {
			x.instead = b
		}
	case api.ErrFull:
	default:
		x.t.Fatal("Switch", errno)
	}
}

// behind opens the log behind a crash, and holds what is there against what may be; it goes on from there.
func (x *run) behind(what string, keep []bool) {
	x.d.Crash(keep)
	w, records, errno := wal.Open(x.d)
	if errno != api.OK {
		x.t.Fatal(what, errno)
	}
	if !x.may(records) {
		x.t.Fatalf("%s, %v kept: %q; flushed: %q, since: %q, Switch: %q", what, keep, records, x.sure, x.since, x.instead)
	}
	x.w, x.sure, x.since, x.instead = w, records, nil, nil
}

func (x *run) may(records [][]byte) bool {
	if x.instead != nil && equal(records, [][]byte{x.instead}) {
		return true
	}
	all := append(slices.Clone(x.sure), x.since...)
	return len(records) >= len(x.sure) && len(records) <= len(all) && equal(records, all[:len(records)])
}

func (x *run) fork() *run {
	other := *x
	other.d = x.d.Fork()
	return &other
}

// P6.4, P6.5, P6.6 and E4: a disk that goes off at each step of some calls, and each choice of what is kept; then once more, on what that left.
func TestAllCrashesOfShortRuns(t *testing.T) {
	scripts := []func(*run){
		func(x *run) { x.append(2); x.append(70); x.append(3) },
		func(x *run) { x.append(2); x.flush(); x.append(130); x.append(3) },
		func(x *run) { x.append(60); x.switchTo(70); x.append(4) },
		func(x *run) { x.switchTo(120); x.append(2); x.switchTo(3) },
		func(x *run) {
			x.append(2)
			x.append(3)
			x.append(4)
			x.append(5)
			x.flush()
			x.switchTo(200)
			x.switchTo(6)
		},
	}
	ends := 0
	for i, first := range scripts {
		for cut := range 14 {
			begun := &run{t: t, d: disk.New(8)}
			begun.behind("new", nil)
			begun.d.Cut(cut)
			first(begun)
			for _, keep := range choices(begun.d.Waiting()) {
				x := begun.fork()
				x.behind(fmt.Sprint("script ", i, " cut at ", cut), keep)
				for j, second := range scripts {
					for again := 1; again < 12; again += 3 {
						y := x.fork()
						y.w, _ = open(t, y.d)
						y.d.Cut(again)
						second(y)
						n := y.d.Waiting()
						for _, keep := range [][]bool{nil, {true}, {false, true}, {true, false, true}, slices.Repeat([]bool{true}, n)} {
							z := y.fork()
							z.behind(fmt.Sprint("scripts ", i, ", ", j, " cut at ", cut, ", ", again), keep)
							ends++
						}
					}
				}
			}
		}
	}
	if ends < 10000 {
		t.Error("few crashes:", ends)
	}
}

func choices(n int) [][]bool {
	var out [][]bool
	for mask := range 1 << n {
		keep := make([]bool, n)
		for i := range keep {
			keep[i] = mask>>i&1 == 1
		}
		out = append(out, keep)
	}
	return out
}

// The same by chance, on one disk from crash to crash, so that much that is stale lies about.
func TestManyCrashesOfOneDisk(t *testing.T) {
	r := rand.New(rand.NewSource(66))
	for round := range 300 {
		x := &run{t: t, d: disk.New(2 * (2 + r.Intn(9)))}
		x.behind("new", nil)
		for crash := range 40 {
			if r.Intn(5) > 0 {
				x.d.Cut(r.Intn(25))
			}
			for range r.Intn(12) {
				switch r.Intn(6) {
				case 0:
					x.switchTo(2 + r.Intn(200))
				case 1:
					x.flush()
				case 2:
					if !x.d.Off() { // without a crash all that waits is told, too
						w, records := open(t, x.d)
						if !equal(records, append(slices.Clone(x.sure), x.since...)) {
							t.Fatalf("opened again: %q, not %q and %q", records, x.sure, x.since)
						}
						x.w = w
					}
				default:
					x.append(2 + r.Intn(200))
				}
			}
			keep := make([]bool, r.Intn(x.d.Waiting()+3))
			odds := r.Intn(5)
			for i := range keep {
				keep[i] = r.Intn(4) < odds
			}
			x.behind(fmt.Sprint("round ", round, " crash ", crash), keep)
		}
	}
}

// A record whose Append was refused by the disk is never told: a piece of it was not written.
func TestHalfARecordIsNone(t *testing.T) {
	for cut := range 4 {
		d := disk.New(16)
		w, _ := open(t, d)
		add(t, w, []byte("a"), 0)
		is(t, "Flush", w.Flush(), api.OK)
		d.Cut(cut)
		if _, errno := w.Append(filled(4*room, 9)); errno != api.ErrState {
			t.Fatal(errno)
		}
		d.Crash(slices.Repeat([]bool{true}, 9))
		holds(t, d, []byte("a"))
	}
}

// Behind a Switch neither what was ahead of it nor what lies behind in the half is told.
func TestStaleRecordsStayForgotten(t *testing.T) {
	d := disk.New(8)
	w, _ := open(t, d)
	for i := range 4 {
		add(t, w, []byte{byte(i)}, i)
	}
	is(t, "Switch", w.Switch([]byte("x")), api.OK)
	is(t, "Switch back", w.Switch([]byte("y")), api.OK)
	d.Crash(nil)
	holds(t, d, []byte("y"))
	w, _ = open(t, d)
	add(t, w, []byte("z"), 1)
	holds(t, d, []byte("y"), []byte("z"))
}

// P6: the same calls answer the same, whatever other logs there are.
func TestNothingIsKeptBetweenLogs(t *testing.T) {
	play := func() string {
		d := disk.New(8)
		w, _ := open(t, d)
		n, errno := w.Append([]byte("a"))
		e := w.Switch([]byte("b"))
		_, records := open(t, d)
		return fmt.Sprint(n, errno, e, records, w.Len(), w.Left(), w.Half(), w.Epoch(), w.Broken())
	}
	first := play()
	other, _ := open(t, disk.New(4))
	other.Append([]byte("c"))
	other.Switch([]byte("d"))
	if second := play(); first != second {
		t.Error(first, second)
	}
}
