package durable_test

import (
	"bytes"
	"fmt"
	"slices"
	"strconv"
	"strings"
	"testing"

	"regesta/api"
	"regesta/base"
	"regesta/disk"
	"regesta/durable"
	"regesta/redo"
	"regesta/rows"
	"regesta/value"
	"regesta/wal"
)

// The calls are those of the chapter.
var (
	_ func(*disk.Disk) (*durable.Durable, api.Errno)     = durable.Open
	_ func(*durable.Durable, int, string) api.Reply      = (*durable.Durable).Do
	_ func(*durable.Durable, int)                        = (*durable.Durable).Tick
	_ func(*durable.Durable) api.Errno                   = (*durable.Durable).Check
	_ func(*durable.Durable) *base.Base                  = (*durable.Durable).Base
	_ func(*durable.Durable) bool                        = (*durable.Durable).Lost
	_ func(*durable.Durable) int                         = (*durable.Durable).Records
	_ func(*base.Base, int, string) (string, api.Errno)  = (*base.Base).Explain
	_ func(*disk.Disk) (*wal.Wal, [][]byte, api.Errno)   = wal.Open
	_ func(e api.Effect) (bytes []byte, errno api.Errno) = redo.Encode
)

const (
	sessions = 4
	room     = api.SectorSize - 7
	most     = api.MaxPieces * room
)

func want(t *testing.T, call string, got, want any) {
	t.Helper()
	if a, b := fmt.Sprint(got), fmt.Sprint(want); a != b {
		t.Fatalf("%s = %s, not %s", call, a, b)
	}
}

func toldRow(vals []api.Value, s api.Span) string {
	var texts []string
	for _, v := range vals {
		text, e := value.Print(v)
		if e != api.OK {
			text = fmt.Sprintf("?%v", v)
		}
		texts = append(texts, text)
	}
	return fmt.Sprintf("%s:%d-%d", strings.Join(texts, ","), s.From, s.To)
}

// toldReply is the error, the count, the instant, and the rows: 0 1 0 1,5:0-10@3-7.
func toldReply(r api.Reply) string {
	text := fmt.Sprint(int(r.Errno), " ", r.Count, " ", r.At)
	for _, o := range r.Rows {
		text += " " + toldRow(o.Vals, o.Span)
		if o.Sys != (api.Span{}) {
			text += fmt.Sprintf("@%d-%d", o.Sys.From, o.Sys.To)
		}
	}
	return text
}

func toldState(s *rows.State) string {
	text := ""
	for _, name := range s.Names() {
		for _, r := range s.Get(name) {
			text += name + " " + toldRow(r.Vals, r.Span) + "; "
		}
	}
	return text
}

// kept is all that a crash must leave: the tables, the versions and the horizon.
func kept(b *base.Base) string {
	text := fmt.Sprintln(b.Catalog().Tables(), b.Past().Horizon())
	for _, v := range b.Past().Versions() {
		text += fmt.Sprintf("%s %s@%d-%d; ", v.Table, toldRow(v.Row.Vals, v.Row.Span), v.Sys.From, v.Sys.To)
	}
	return text
}

// whole is all that a base tells, its last effect too, and of each open session what its commit would answer.
func whole(b *base.Base) string {
	at, some := b.Oldest()
	force, loose, laid := b.Past().Stored()
	text := fmt.Sprintln(b.Clock(), at, some, b.Past().Last(), force, loose, laid, b.Past().Parts(), b.Whole().At, b.Effect())
	for id := range sessions {
		view, e := b.View(id)
		text += fmt.Sprintln(id, b.Open(id), e, toldState(view))
		if b.Open(id) {
			text += toldReply(b.Fork().Do(id, "commit"))
		}
	}
	return text + kept(b)
}

func bytesOf(t *testing.T, e api.Effect) []byte {
	t.Helper()
	b, errno := redo.Encode(e)
	want(t, "Encode", errno, api.OK)
	return b
}

func open(t *testing.T, d *disk.Disk) *durable.Durable {
	t.Helper()
	x, errno := durable.Open(d)
	if errno != api.OK || x == nil {
		t.Fatalf("Open = %v, %d", x, errno)
	}
	return x
}

func refused(t *testing.T, what string, d *disk.Disk, wanted api.Errno) {
	t.Helper()
	if x, errno := durable.Open(d); errno != wanted || x != nil {
		t.Fatalf("Open of %s = %v, %d, not nil, %d", what, x, errno, wanted)
	}
}

// play does lines: tick and a number, check and its answer, or a session, its statement, and what it must answer.
func play(t *testing.T, x *durable.Durable, lines ...string) {
	t.Helper()
	for _, line := range lines {
		asked, wanted, _ := strings.Cut(line, " => ")
		who, text, _ := strings.Cut(asked, " ")
		n, _ := strconv.Atoi(text)
		switch who {
		case "tick":
			x.Tick(n)
			continue
		case "check":
			want(t, line, int(x.Check()), wanted)
			continue
		}
		id, _ := strconv.Atoi(who)
		want(t, asked, toldReply(x.Do(id, text)), wanted)
	}
}

func made(t *testing.T, size int, lines ...string) (*disk.Disk, *durable.Durable) {
	t.Helper()
	d := disk.New(size)
	x := open(t, d)
	play(t, x, lines...)
	return d, x
}

// records are those that are in the log on a disk.
func records(t *testing.T, d *disk.Disk) [][]byte {
	t.Helper()
	_, l, errno := wal.Open(d.Fork())
	want(t, "Open of the log", errno, api.OK)
	return l
}

// diskOf has a log of records.
func diskOf(t *testing.T, size int, l ...[]byte) *disk.Disk {
	t.Helper()
	d := disk.New(size)
	w, _, errno := wal.Open(d)
	want(t, "Open of the log", errno, api.OK)
	for _, b := range l {
		_, errno := w.Append(b)
		want(t, "Append", errno, api.OK)
	}
	want(t, "Flush", w.Flush(), api.OK)
	return d
}

// image are a disk's sectors, and what waits.
func image(t *testing.T, d *disk.Disk) string {
	t.Helper()
	var all []byte
	for i := range d.Size() {
		b, errno := d.Read(i)
		want(t, "Read", errno, api.OK)
		all = append(all, b...)
	}
	return fmt.Sprintf("%x, %d wait", all, d.Waiting())
}

func table(name string) api.Table {
	return api.Table{Name: name, Cols: []api.Col{{Name: "k", Kind: api.Int}, {Name: "v", Kind: api.Int}}}
}

func row(from, to int, k, v int64) api.Row {
	return api.Row{Vals: []api.Value{{Kind: api.Int, Num: k}, {Kind: api.Int, Num: v}}, Span: api.Span{From: from, To: to}}
}

func create(name string) api.Effect {
	return api.Effect{Kind: api.CreateIt, Tables: []api.Table{table(name)}}
}

func commit(at int, gone, come []api.Row) api.Effect {
	return api.Effect{Kind: api.CommitIt, At: at, Changes: []api.Change{{Table: "t", Gone: gone, Come: come}}}
}

func prune(h int) api.Effect { return api.Effect{Kind: api.PruneIt, Horizon: h} }

const createT = "0 create table t (k int, v int) => 0 0 0"

func TestP25_1OpenOfEachSize(t *testing.T) {
	for size := 1; size <= api.MaxSectors; size++ {
		d := disk.New(size)
		if size < 4 || size%2 != 0 {
			refused(t, fmt.Sprint(size, " sectors"), d, api.ErrRange)
			continue
		}
		x := open(t, d)
		want(t, "what is there at first", fmt.Sprint(x.Lost(), x.Records(), whole(x.Base()) == whole(base.New())), "false 0 true")
	}
}

func TestP25_1OpenErrorsOfTheLog(t *testing.T) {
	refused(t, "nil", nil, api.ErrNil)
	// Of a disk that is off the size is asked first.
	for size, wanted := range map[int]api.Errno{3: api.ErrRange, 5: api.ErrRange, 4: api.ErrState, 64: api.ErrState} {
		d := disk.New(size)
		d.Cut(0)
		want(t, "Flush", d.Flush(), api.ErrState)
		refused(t, "a disk that is off", d, wanted)
	}
	for epoch, wanted := range map[int]api.Errno{65534: api.OK, 65535: api.ErrSpace} {
		d := disk.New(8)
		want(t, "Write", d.Write(7, []byte{byte(epoch >> 8), byte(epoch)}), api.OK)
		if _, errno := durable.Open(d); errno != wanted {
			t.Errorf("Open at the epoch %d = %d, not %d", epoch, errno, wanted)
		}
	}
}

func TestP25_1OpenReplaysAllRecords(t *testing.T) {
	effects := []api.Effect{
		create("t"), create("u"),
		commit(3, nil, []api.Row{row(0, 5, 1, 1), row(0, 5, 2, 1)}),
		commit(4, []api.Row{row(0, 5, 1, 1)}, []api.Row{row(0, 5, 1, 7)}),
		commit(9, []api.Row{row(0, 5, 2, 1)}, nil),
		prune(4), prune(8), prune(2),
	}
	b := base.New()
	var l [][]byte
	for i := range effects {
		x := open(t, diskOf(t, 64, l...))
		want(t, "Records", x.Records(), i)
		want(t, fmt.Sprint("Open of ", i, " effects"), whole(x.Base()), whole(b))
		want(t, "Replay", b.Replay(effects[i]), api.OK)
		l = append(l, bytesOf(t, effects[i]))
	}
	// All there is as one record; further ones stand behind it.
	e := b.Whole()
	fresh := base.New()
	want(t, "Replay", fresh.Replay(e), api.OK)
	want(t, "Replay", fresh.Replay(create("w")), api.OK)
	x := open(t, diskOf(t, 64, bytesOf(t, e), bytesOf(t, create("w"))))
	want(t, "Open behind all there is", whole(x.Base()), whole(fresh))
	want(t, "Records", x.Records(), 2)
}

func TestP25_1OpenOfNoEffects(t *testing.T) {
	right := bytesOf(t, create("t"))
	wrong := [][]byte{{0}, {9}, []byte("create table t (k int)"), right[1:], append(slices.Clone(right), 0), bytes.Repeat([]byte{3}, 100), {3, 0, 0, 0, 0, 0, 0}}
	for n := 1; n < len(right); n++ {
		wrong = append(wrong, right[:n])
	}
	for _, b := range wrong {
		refused(t, fmt.Sprintf("%x alone", b), diskOf(t, 64, b), api.ErrForm)
		refused(t, fmt.Sprintf("%x behind an effect", b), diskOf(t, 64, right, b), api.ErrForm)
		refused(t, fmt.Sprintf("%x ahead of an effect", b), diskOf(t, 64, b, right), api.ErrForm)
	}
}

func TestP25_1OpenOfEffectsThatCanNotBeReplayed(t *testing.T) {
	come := []api.Row{row(0, 5, 1, 1)}
	child := api.Effect{Kind: api.CreateIt, Tables: []api.Table{{Name: "u", Cols: table("u").Cols, Parent: "t", Ref: 1}}}
	for what, l := range map[string][]api.Effect{
		"a table twice":                        {create("t"), create("t")},
		"a table without its parent":           {child},
		"more tables than may be":              {create("a"), create("b"), create("c"), create("d")},
		"an instant twice":                     {create("t"), commit(3, nil, come), commit(3, come, nil)},
		"instants that fall":                   {create("t"), commit(3, nil, come), commit(2, come, nil)},
		"a row that is not there":              {create("t"), commit(3, come, nil)},
		"a row twice":                          {create("t"), commit(3, nil, come), commit(4, nil, come)},
		"a horizon behind Last":                {create("t"), commit(3, nil, come), prune(4)},
		"all there is behind a table":          {create("t"), {Kind: api.WholeIt, At: 2}},
		"all there is with a horizon above it": {{Kind: api.WholeIt, At: 2, Horizon: 3}},
		"all there is twice, and instants":     {{Kind: api.WholeIt, At: 2}, {Kind: api.WholeIt, At: 2}},
	} {
		var right, all [][]byte
		for i, e := range l {
			if i < len(l)-1 {
				right = append(right, bytesOf(t, e))
			}
			all = append(all, bytesOf(t, e))
		}
		open(t, diskOf(t, 64, right...))
		refused(t, what, diskOf(t, 64, all...), api.ErrForm)
		// What stands behind the wrong one does not matter.
		refused(t, what, diskOf(t, 64, append(all, bytesOf(t, create("x")))...), api.ErrForm)
	}
	// The order matters.
	open(t, diskOf(t, 64, bytesOf(t, create("t")), bytesOf(t, child)))
	refused(t, "the child ahead", diskOf(t, 64, bytesOf(t, child), bytesOf(t, create("t"))), api.ErrForm)
}

func TestP25_1OpenChangesNothingOnTheDisk(t *testing.T) {
	d, _ := made(t, 16, createT, "0 insert into t values (1, 1) from 0 to 5 => 0 1 1")
	ahead := image(t, d)
	for range 3 {
		want(t, "Records", open(t, d).Records(), 2)
		want(t, "the disk", image(t, d), ahead)
	}
	d.Cut(0)
	open(t, d)
	if d.Off() {
		t.Error("Open wrote")
	}
}

// Each effect, and nothing else, is on the disk when the reply is there: the log's records are the bytes of the effects of a base of its own.
func TestP25_2WhatIsOnTheDisk(t *testing.T) {
	d, b := disk.New(128), base.New()
	x := open(t, d)
	var l [][]byte
	for _, asked := range []string{
		"0 create table t (k int, v int)", "0 create table u (m int, n int) references t by n", "0 create table t (k int)", "0 insert into t values (1, 0) from 0 to 10",
		"0 insert into t values (1, 0) from 5 to 6", "0 insert into u values (7, 1) from 2 to 5", "0 insert into u values (7, 2) from 2 to 5", "0 delete t", "0 delete t where k = 9",
		"0 begin", "0 begin", "1 begin", "0 update t set v = 5 from 2 to 4", "1 update t set v = 6", "0 select * in t", "2 select * in t", "0 commit", "1 commit", "1 commit", "1 begin", "1 commit",
		"0 create table w (a text)", "3 begin", "3 insert into w values ('a b') from 0 to 5", "3 rollback", "3 rollback", "3 begin", "3 insert into w values ('it''s') from 0 to 5", "3 insert into t values (2, 2) from 0 to 5", "3 commit",
		"tick 30", "0 update t set v = 5", "2 select * in t as of 2", "2 select * in t from 0 to 9", "0 prune 29", "0 prune 29", "0 prune 0", "2 select * in t as of 2", "0 prune 1073741825", "9 begin", "-1 begin", "0 selec", "0", "0 update t set v = 6 from 0 to 9", "0 create table x (a int)", "0 delete w",
	} {
		who, text, _ := strings.Cut(asked, " ")
		if who == "tick" {
			b.Tick(30)
			x.Tick(30)
			continue
		}
		id, _ := strconv.Atoi(who)
		ahead := image(t, d)
		want(t, asked, toldReply(x.Do(id, text)), toldReply(b.Do(id, text)))
		if e := b.Effect(); e.Kind != api.NoEffect {
			l = append(l, bytesOf(t, e))
		} else {
			want(t, "the disk behind "+asked, image(t, d), ahead)
		}
		want(t, "what there is behind "+asked, whole(x.Base()), whole(b))
		want(t, "Waiting behind "+asked, d.Waiting(), 0)
		want(t, "Records behind "+asked, x.Records(), len(l))
		want(t, "the log behind "+asked, fmt.Sprintf("%x", records(t, d)), fmt.Sprintf("%x", l))
		want(t, "Lost", x.Lost(), false)
	}
	if len(l) < 9 {
		t.Errorf("there are %d effects only", len(l))
	}
}

// What has no effect does not ask the disk: it is as good off.
func TestP25_2WithoutEffectsTheDiskIsNotAsked(t *testing.T) {
	d, x := made(t, 16, createT, "0 insert into t values (1, 0) from 0 to 10 => 0 1 1")
	d.Cut(0)
	play(t, x, "0 begin => 0 0 1", "0 begin => 7 0 0", "0 update t set v = 5 => 0 1 0", "0 select * in t => 0 1 0 1,5:0-10", "0 rollback => 0 0 0", "0 commit => 7 0 0", "1 begin => 0 0 1", "1 commit => 0 0 0",
		"1 update t set v = 5 where k = 2 => 0 0 0", "1 insert into t values (1, 0) from 0 to 3 => 11 0 0", "1 prune 0 => 0 0 0", "1 selec => 8 0 0", "4 begin => 2 0 0")
	want(t, "Off, Lost", fmt.Sprint(d.Off(), x.Lost()), "false false")
}

func TestP25_2WithoutEffectsADiskThatIsOff(t *testing.T) {
	d, x := made(t, 16, createT)
	d.Cut(0)
	d.Flush()
	play(t, x, "0 begin => 0 0 0", "0 select * in t => 0 0 0", "0 insert into t values (1, 0) from 0 to 10 => 0 1 0", "0 rollback => 0 0 0", "0 prune 5 => 0 0 0")
	want(t, "Lost", x.Lost(), false)
	play(t, x, "0 insert into t values (1, 0) from 0 to 10 => 7 0 0")
	want(t, "Lost", x.Lost(), true)
}
