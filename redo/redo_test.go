package redo_test

import (
	"bytes"
	"fmt"
	"math"
	"slices"
	"strings"
	"testing"

	"regesta/api"
	"regesta/base"
	"regesta/redo"
)

// The calls are those of the chapter.
var (
	_ func(e api.Effect) bool                = redo.Right
	_ func(a, b api.Effect) bool             = redo.Same
	_ func(e api.Effect) ([]byte, api.Errno) = redo.Encode
	_ func(b []byte) (api.Effect, api.Errno) = redo.Decode
)

const (
	clock    = 1 << 30
	forever  = 1 << 40
	maxTabs  = 3
	maxVers  = 60
	longName = "abcdefg8"
)

func num(n int64) api.Value  { return api.Value{Kind: api.Int, Num: n} }
func str(s string) api.Value { return api.Value{Kind: api.Text, Str: s} }

func row(from, to int, vals ...any) api.Row {
	r := api.Row{Span: api.Span{From: from, To: to}}
	for _, v := range vals {
		switch x := v.(type) {
		case int:
			r.Vals = append(r.Vals, num(int64(x)))
		case string:
			r.Vals = append(r.Vals, str(x))
		case api.Value:
			r.Vals = append(r.Vals, x)
		}
	}
	return r
}

func list(l ...api.Row) []api.Row { return l }

func numbered(n int) []api.Row {
	var l []api.Row
	for i := range n {
		l = append(l, row(0, 5, i))
	}
	return l
}

func table(name string, cols ...string) api.Table {
	t := api.Table{Name: name}
	for _, c := range cols {
		col, kind, _ := strings.Cut(c, " ")
		t.Cols = append(t.Cols, api.Col{Name: col, Kind: map[string]api.Kind{"int": api.Int, "text": api.Text}[kind]})
	}
	return t
}

func child(name, parent string, ref int, cols ...string) api.Table {
	t := table(name, cols...)
	t.Parent, t.Ref = parent, ref
	return t
}

func version(table string, r api.Row, from, to int) api.Version {
	return api.Version{Table: table, Row: r, Sys: api.Span{From: from, To: to}}
}

func change(table string, gone, come []api.Row) api.Change {
	return api.Change{Table: table, Gone: gone, Come: come}
}

func create(l ...api.Table) api.Effect { return api.Effect{Kind: api.CreateIt, Tables: l} }

func commit(at int, l ...api.Change) api.Effect {
	return api.Effect{Kind: api.CommitIt, At: at, Changes: l}
}

func prune(h int) api.Effect { return api.Effect{Kind: api.PruneIt, Horizon: h} }

func whole(at, h int, tables []api.Table, versions ...api.Version) api.Effect {
	return api.Effect{Kind: api.WholeIt, At: at, Horizon: h, Tables: tables, Versions: versions}
}

func many[T any](n int, one T) []T {
	var l []T
	for range n {
		l = append(l, one)
	}
	return l
}

// rights are effects that can be, with each field at its limits.
func rights() []api.Effect {
	full := row(-1000, 1000, num(math.MinInt64), num(math.MaxInt64), "", "äöü€𝄞ßxy")
	one := row(0, 1, 5)
	t := table("t", "k int")
	wide := child(longName, "z_9", 3, "a int", "b2345678 text", "c int", "d_ text")
	return []api.Effect{
		create(t), create(table("t", "a text", "b int")), create(wide), create(child("u", "t", 1, "a int", "b int")), create(child("u", "u", 1, "a int", "b int")),
		commit(1), commit(clock), commit(258, change("t", nil, list(one))), commit(3, change("t", list(one), nil)), commit(3, change("t", nil, nil)),
		commit(3, change("t", list(full, one), list(one, full, one))), commit(3, change("t", nil, nil), change("t", nil, nil), change(longName, nil, list(full))),
		commit(clock, change("t", numbered(maxVers), many(maxVers, full)), change("u", many(maxVers, full), nil), change("w", nil, nil)),
		prune(1), prune(5), prune(clock),
		whole(0, 0, nil), whole(clock, clock, nil), whole(0, clock, nil), whole(7, 3, []api.Table{t, wide, t}), whole(7, 3, []api.Table{t}, version("t", full, 0, forever)),
		whole(7, 3, nil, version(longName, one, 0, 0), version("t", one, forever, forever), version("t", one, forever, 0), version("t", full, 3, 77)),
		whole(7, 3, []api.Table{t, wide, t}, many(maxVers, version("t", full, clock, forever))...),
	}
}

// wrongs are effects that can't be: a field is just beyond its limit, or belongs to another kind.
func wrongs() []api.Effect {
	t, one := table("t", "k int"), row(0, 1, 5)
	l := []api.Effect{
		{}, {Kind: 5}, {Kind: 255}, {At: 1}, {Kind: 5, At: 1, Horizon: 1},
		create(), create(t, t), create(t, table("u", "k int")), create(api.Table{}), create(table("t")), create(table("T", "k int")), create(table("t", "a no")), create(table("t", "a int", "a int")), create(table("t", "a int", "b int", "c int", "d int", "e int")), create(table("abcdefgh9", "k int")), create(table("select", "k int")), create(child("u", "t", 0, "a int", "b int")), create(child("u", "t", 2, "a int", "b int")), create(child("u", "", 1, "a int", "b int")), create(child("u", "T", 1, "a int", "b int")), create(child("u", "t", -1, "a int", "b int")), create(child("u", "t", 257, "a int", "b int")),
		commit(0), commit(-1), commit(clock + 1), commit(math.MaxInt), commit(math.MinInt), commit(1 << 48),
		commit(1, many(maxTabs+1, change("t", nil, nil))...), commit(1, change("", nil, list(one))), commit(1, change("T", nil, nil)), commit(1, change("abcdefgh9", nil, nil)), commit(1, change("from", nil, nil)), commit(1, change("t\x00", nil, nil)),
		commit(1, change("t", numbered(maxVers+1), nil)), commit(1, change("t", nil, numbered(maxVers+1))), commit(1, change("t", nil, numbered(256))),
		commit(1, change("t", nil, list(one)), change("", nil, nil)), commit(1, change("t", nil, nil), change("t", list(one), list(api.Row{}))),
		prune(0), prune(-1), prune(clock + 1), prune(math.MaxInt), prune(math.MinInt),
		whole(-1, 0, nil), whole(clock+1, 0, nil), whole(0, -1, nil), whole(0, clock+1, nil), whole(1, 1, many(maxTabs+1, t)), whole(1, 1, []api.Table{t, table("u")}),
		whole(1, 1, nil, many(maxVers+1, version("t", one, 1, 2))...), whole(1, 1, nil, version("", one, 1, 2)), whole(1, 1, nil, version("T", one, 1, 2)), whole(1, 1, nil, version("t", one, -1, 2)), whole(1, 1, nil, version("t", one, 1, -1)), whole(1, 1, nil, version("t", one, forever+1, 2)), whole(1, 1, nil, version("t", one, 1, forever+1)), whole(1, 1, nil, version("t", one, 1, math.MaxInt)), whole(1, 1, nil, version("t", one, math.MinInt, 2)), whole(1, 1, nil, version("t", one, 1, 2), version("t", api.Row{}, 1, 2)),
	}
	for _, r := range []api.Row{{}, row(0, 1), row(0, 0, 1), row(1, 0, 1), row(-1001, 0, 1), row(0, 1001, 1), row(0, 1, 1, 2, 3, 4, 5), row(0, 1, api.Value{}), row(0, 1, api.Value{Kind: 3}), row(0, 1, "123456789"), row(0, 1, "\xff"), row(0, 1, "\n"), row(0, 1, api.Value{Kind: api.Int, Str: "x"}), row(0, 1, api.Value{Kind: api.Text, Num: 1})} {
		l = append(l, commit(1, change("t", list(r), nil)), commit(1, change("t", nil, list(one, r))), whole(1, 1, nil, version("t", r, 1, 2)))
	}
	return append(l, strangers()...)
}

// strangers are right but for one field, which belongs to another kind.
func strangers() []api.Effect {
	t, one := table("t", "k int"), row(0, 1, 5)
	fields := map[string]func(e *api.Effect){
		"At":       func(e *api.Effect) { e.At = 1 },
		"Horizon":  func(e *api.Effect) { e.Horizon = 1 },
		"Tables":   func(e *api.Effect) { e.Tables = []api.Table{t} },
		"Changes":  func(e *api.Effect) { e.Changes = []api.Change{change("t", nil, list(one))} },
		"Versions": func(e *api.Effect) { e.Versions = []api.Version{version("t", one, 1, 2)} },
	}
	var l []api.Effect
	for _, x := range []struct {
		right  api.Effect
		others []string
	}{
		{create(t), []string{"At", "Horizon", "Changes", "Versions"}},
		{commit(1, change("t", nil, list(one))), []string{"Horizon", "Tables", "Versions"}},
		{prune(1), []string{"At", "Tables", "Changes", "Versions"}},
		{whole(1, 1, []api.Table{t}), []string{"Changes"}},
	} {
		for _, name := range x.others {
			e := x.right
			fields[name](&e)
			l = append(l, e)
		}
	}
	return l
}

func TestP24_1Right(t *testing.T) {
	for _, e := range rights() {
		if !redo.Right(e) {
			t.Errorf("Right(%v) = false", e)
		}
	}
	for _, e := range wrongs() {
		if redo.Right(e) {
			t.Errorf("Right(%v) = true", e)
		}
	}
	// Lists without members are as good as none.
	for _, e := range []api.Effect{{Kind: api.PruneIt, Horizon: 1, Tables: []api.Table{}, Changes: []api.Change{}, Versions: []api.Version{}}, {Kind: api.CommitIt, At: 1, Changes: []api.Change{{Table: "t", Gone: []api.Row{}, Come: []api.Row{}}}, Tables: []api.Table{}}, {Kind: api.WholeIt, Tables: []api.Table{}, Changes: []api.Change{}}} {
		if !redo.Right(e) {
			t.Errorf("Right(%v) = false", e)
		}
	}
	if len(strangers()) != 12 {
		t.Errorf("there are %d strangers", len(strangers()))
	}
}

// The bytes, as the chapter tells them: numbers, counts, names, rows, one by one.
func TestP24_1EncodeByHand(t *testing.T) {
	five := "\x00\x0e\x01\x80\x00\x00\x00\x00\x00\x00\x05\x00\x03\xe8\x03\xe9"
	text := "\x00\x0b\x02ab\x00\x02\x00\x00\x00\x00\x07\xd0"
	for _, x := range []struct {
		e    api.Effect
		want string
	}{
		{prune(5), "\x03\x00\x00\x00\x00\x00\x05"},
		{prune(clock), "\x03\x00\x00\x40\x00\x00\x00"},
		{prune(0x01020304), "\x03\x00\x00\x01\x02\x03\x04"},
		{commit(258, change("t", nil, list(row(0, 1, 5)))), "\x02\x00\x00\x00\x00\x01\x02\x01\x01t\x00\x01" + five},
		{commit(1), "\x02\x00\x00\x00\x00\x00\x01\x00"},
		{commit(1, change("ab", list(row(0, 1, 5), row(-1000, 1000, "ab", "")), nil), change("c", nil, nil)), "\x02\x00\x00\x00\x00\x00\x01\x02\x02ab\x02" + five + text + "\x00\x01c\x00\x00"},
		{create(table("t", "a int")), "\x01\x01t\x01\x01a\x01\x00\x00"},
		{create(child("kid", "t", 2, "a text", "bc int", "d text")), "\x01\x03kid\x03\x01a\x02\x02bc\x01\x01d\x02\x01t\x02"},
		{whole(0, 0, nil), "\x04\x00\x00\x00\x00\x00\x00\x00\x00\x00\x00\x00\x00\x00\x00"},
		{whole(7, 3, []api.Table{table("t", "a int")}, version("t", row(0, 1, 5), 2, forever)), "\x04\x00\x00\x00\x00\x00\x07\x00\x00\x00\x00\x00\x03\x01\x01t\x01\x01a\x01\x00\x00\x01\x01t" + five + "\x00\x00\x00\x00\x00\x02\x01\x00\x00\x00\x00\x00"},
	} {
		b, errno := redo.Encode(x.e)
		if errno != api.OK || string(b) != x.want {
			t.Errorf("Encode(%v) = %x and %d, not %x", x.e, b, errno, x.want)
		}
		e, errno := redo.Decode([]byte(x.want))
		if errno != api.OK || !redo.Same(e, x.e) {
			t.Errorf("Decode(%x) = %v and %d, not %v", x.want, e, errno, x.e)
		}
	}
}

func TestP24_1EncodeOfWrongOnes(t *testing.T) {
	for _, e := range wrongs() {
		if b, errno := redo.Encode(e); errno != api.ErrForm || len(b) > 0 {
			t.Errorf("Encode(%v) = %x and %d", e, b, errno)
		}
	}
}

func encoded(t *testing.T, e api.Effect) []byte {
	t.Helper()
	b, errno := redo.Encode(e)
	if errno != api.OK {
		t.Fatalf("Encode(%v) = %d", e, errno)
	}
	return b
}

func refused(t *testing.T, b []byte) {
	t.Helper()
	e, errno := redo.Decode(b)
	if errno != api.ErrForm || fmt.Sprint(e) != fmt.Sprint(api.Effect{}) {
		t.Fatalf("Decode(%x) = %v and %d", b, e, errno)
	}
}

func TestP24_2DecodeOfEncode(t *testing.T) {
	for _, e := range rights() {
		got, errno := redo.Decode(encoded(t, e))
		if errno != api.OK || !redo.Same(got, e) || fmt.Sprint(got) != fmt.Sprint(e) {
			t.Errorf("Decode of Encode of %v = %v and %d", e, got, errno)
		}
	}
	// Where a list may be nil or empty, the bytes are the same.
	if !bytes.Equal(encoded(t, commit(1)), encoded(t, api.Effect{Kind: api.CommitIt, At: 1, Changes: []api.Change{}, Tables: []api.Table{}})) {
		t.Error("lists without members are told in two ways")
	}
}

func TestP24_1DecodeOfPieces(t *testing.T) {
	refused(t, nil)
	refused(t, []byte{})
	for _, e := range rights() {
		b := encoded(t, e)
		for end := range len(b) {
			if len(b) > 3000 && end%17 > 0 && end < len(b)-40 {
				continue
			}
			refused(t, b[:end])
		}
		for _, more := range []string{"\x00", "\x01", "\xff", "\x00\x00\x00", string(b)} {
			refused(t, append(slices.Clone(b), more...))
		}
		refused(t, append([]byte{0}, b...))
	}
}

// Whatever byte is another one: the bytes are those of no effect, or of another one, whose bytes they are.
func TestP24_1DecodeOfOtherBytes(t *testing.T) {
	decoded, kinds := 0, map[api.EffectKind]int{}
	for _, e := range rights() {
		b := encoded(t, e)
		if len(b) > 3000 {
			continue
		}
		for place := range b {
			for _, by := range []byte{1, 2, 3, 4, 7, 16, 64, 128, 255} {
				other := slices.Clone(b)
				other[place] += by
				got, errno := redo.Decode(other)
				if errno != api.OK {
					refused(t, other)
					continue
				}
				decoded++
				kinds[got.Kind]++
				if !redo.Right(got) || redo.Same(got, e) || !bytes.Equal(encoded(t, got), other) {
					t.Fatalf("Decode(%x) = %v", other, got)
				}
			}
		}
	}
	if decoded < 1000 || len(kinds) != 4 {
		t.Errorf("only %d were decoded, %v", decoded, kinds)
	}
}

func TestP24_1DecodeOfWrongOnes(t *testing.T) {
	const zero = "\x00\x00\x00\x00\x00"
	five := "\x00\x0e\x01\x80\x00\x00\x00\x00\x00\x00\x05\x00\x03\xe8\x03\xe9"
	for _, text := range []string{
		// No kind.
		"\x00", "\x05", "\xff", "\x00" + zero + "\x05", "\x05" + zero + "\x05",
		// Numbers that may not be, of six bytes each.
		"\x03" + zero + "\x00", "\x03\x00\x00\x40\x00\x00\x01", "\x03\xff\xff\xff\xff\xff\xff", "\x03\x80" + zero, "\x03" + zero, "\x03" + zero + "\x00\x05",
		"\x02" + zero + "\x00\x00", "\x02\x00\x00\x40\x00\x00\x01\x00",
		"\x04\x00\x00\x40\x00\x00\x01" + zero + "\x00\x00\x00", "\x04" + zero + "\x00\x00\x00\x40\x00\x00\x01\x00\x00",
		// Counts: more, or fewer, than there are; more than may be.
		"\x02" + zero + "\x01\x01", "\x02" + zero + "\x01\x02\x01t\x00\x00", "\x02" + zero + "\x01\x00\x01t\x00\x00", "\x02" + zero + "\x01\x04" + strings.Repeat("\x01t\x00\x00", 4), "\x02" + zero + "\x01\xff",
		"\x02" + zero + "\x01\x01\x01t\x00\x02" + five, "\x02" + zero + "\x01\x01\x01t\x00\x3d" + strings.Repeat(five, 61), "\x02" + zero + "\x01\x01\x01t\x3d" + strings.Repeat(five, 61) + "\x00",
		"\x04" + zero + "\x00" + zero + "\x00\x04" + strings.Repeat("\x01t\x01\x01a\x01\x00\x00", 4) + "\x00",
		"\x04" + zero + "\x00" + zero + "\x00\x00\x3d" + strings.Repeat("\x01t"+five+zero+"\x01"+zero+"\x02", 61),
		"\x04" + zero + "\x00" + zero + "\x00\x00\x01\x01t" + five + zero + "\x01\x01\x00\x00\x00\x00\x01",
		// Names that are none.
		"\x02" + zero + "\x01\x01\x00\x00\x00", "\x02" + zero + "\x01\x01\x01T\x00\x00", "\x02" + zero + "\x01\x01\x02in\x00\x00", "\x02" + zero + "\x01\x01\x09abcdefgh9\x00\x00",
		// Rows that are not right, or shorter, or longer, than is told.
		"\x02" + zero + "\x01\x01\x01t\x00\x01\x00\x00", "\x02" + zero + "\x01\x01\x01t\x00\x01\x00\x0d" + five[2:], "\x02" + zero + "\x01\x01\x01t\x00\x01\x00\x0f" + five[2:] + "\x00", "\x02" + zero + "\x01\x01\x01t\x00\x01\x0e\x00" + five[2:], "\x02" + zero + "\x01\x01\x01t\x00\x01" + five[:len(five)-1] + "\xe8", "\x02" + zero + "\x01\x01\x01t\x00\x01\xff\xff" + five[2:],
		// Tables that are not right.
		"\x01", "\x01\x00\x01\x01a\x01\x00\x00", "\x01\x01t\x00\x00\x00", "\x01\x01t\x01\x01a\x00\x00\x00", "\x01\x01t\x01\x01a\x03\x00\x00", "\x01\x01t\x01\x01a\x01\x00\x01", "\x01\x01t\x01\x01a\x01\x01t\x00", "\x01\x01t\x01\x01a\x01\x01t\x01", "\x01\x01t\x02\x01a\x01\x01a\x01\x00\x00", "\x01\x01t\x02\x01a\x01\x01b\x01\x01t\x02", "\x01\x01t\x01\x00\x01\x00\x00", "\x01\x01t\x05\x01a\x01\x01b\x01\x01c\x01\x01d\x01\x01e\x01\x00\x00", "\x01\x01t\x01\x01a\x01\x00\x00\x01u\x01\x01a\x01\x00\x00",
		"begin", "\xff\xff\xff\xff",
	} {
		refused(t, []byte(text))
	}
}

func TestP24_1Same(t *testing.T) {
	base := func() api.Effect {
		return api.Effect{Kind: api.WholeIt, At: 7, Horizon: 3, Tables: []api.Table{child("t", "p", 1, "a int", "b text"), table("u", "a int")}, Changes: []api.Change{change("t", list(row(0, 5, 1, "x"), row(5, 9, 1, "x")), list(row(0, 5, 2, "x"))), change("u", nil, list(row(0, 5, 3)))}, Versions: []api.Version{version("t", row(0, 5, 1, "x"), 1, 9), version("u", row(0, 5, 3), 2, forever)}}
	}
	if !redo.Same(base(), base()) || !redo.Same(api.Effect{}, api.Effect{}) {
		t.Error("an effect is not the same as itself")
	}
	// Each differs in one field alone.
	for i, do := range []func(e *api.Effect){
		func(e *api.Effect) { e.Kind = api.PruneIt }, func(e *api.Effect) { e.Kind = 77 }, func(e *api.Effect) { e.At++ }, func(e *api.Effect) { e.Horizon-- },
		func(e *api.Effect) { e.Tables = nil }, func(e *api.Effect) { e.Tables = e.Tables[:1] }, func(e *api.Effect) { e.Tables = append(e.Tables, e.Tables[1]) }, func(e *api.Effect) { slices.Reverse(e.Tables) },
		func(e *api.Effect) { e.Tables[0].Name = "x" }, func(e *api.Effect) { e.Tables[0].Parent = "x" }, func(e *api.Effect) { e.Tables[0].Ref = 0 }, func(e *api.Effect) { e.Tables[0].Cols = e.Tables[0].Cols[:1] }, func(e *api.Effect) { e.Tables[0].Cols[1].Name = "x" }, func(e *api.Effect) { e.Tables[0].Cols[1].Kind = api.Int }, func(e *api.Effect) { slices.Reverse(e.Tables[0].Cols) }, func(e *api.Effect) { e.Tables[1].Cols[0].Kind = 0 },
		func(e *api.Effect) { e.Changes = nil }, func(e *api.Effect) { e.Changes = e.Changes[1:] }, func(e *api.Effect) { slices.Reverse(e.Changes) }, func(e *api.Effect) { e.Changes[1].Table = "x" }, func(e *api.Effect) { e.Changes[0].Gone = e.Changes[0].Gone[:1] }, func(e *api.Effect) { slices.Reverse(e.Changes[0].Gone) }, func(e *api.Effect) { e.Changes[0].Come = nil }, func(e *api.Effect) { e.Changes[1].Gone, e.Changes[1].Come = e.Changes[1].Come, nil }, func(e *api.Effect) { e.Changes[0].Gone[1].Vals[0].Num++ }, func(e *api.Effect) { e.Changes[0].Come[0].Vals[1].Str = "y" }, func(e *api.Effect) { e.Changes[0].Come[0].Vals[1].Kind = 0 }, func(e *api.Effect) { e.Changes[0].Come[0].Vals = e.Changes[0].Come[0].Vals[:1] }, func(e *api.Effect) { e.Changes[0].Come[0].Span.From = 1 }, func(e *api.Effect) { e.Changes[0].Gone[0].Span.To = 4 },
		func(e *api.Effect) { e.Versions = nil }, func(e *api.Effect) { e.Versions = e.Versions[:1] }, func(e *api.Effect) { slices.Reverse(e.Versions) }, func(e *api.Effect) { e.Versions[0].Table = "x" }, func(e *api.Effect) { e.Versions[0].Row.Vals[0].Num-- }, func(e *api.Effect) { e.Versions[1].Row.Vals = nil }, func(e *api.Effect) { e.Versions[1].Row.Span.To++ }, func(e *api.Effect) { e.Versions[1].Row.Span.From++ }, func(e *api.Effect) { e.Versions[1].Sys.From++ }, func(e *api.Effect) { e.Versions[0].Sys.To++ },
	} {
		e := base()
		do(&e)
		if redo.Same(e, base()) || redo.Same(base(), e) || !redo.Same(e, e) {
			t.Errorf("difference %d is none", i)
		}
	}
	// A list without members may be nil.
	e := base()
	e.Changes[1].Gone = []api.Row{}
	if !redo.Same(e, base()) || !redo.Same(base(), e) {
		t.Error("an empty list is not as good as none")
	}
	all := append(rights(), wrongs()...)
	for i, a := range all {
		for j, b := range all {
			if redo.Same(a, b) != (fmt.Sprintf("%+v", a) == fmt.Sprintf("%+v", b)) {
				t.Errorf("Same of %d and %d: %v and %v", i, j, a, b)
			}
		}
	}
}

// No two effects have the same bytes.
func TestP24_2BytesTellEffectsApart(t *testing.T) {
	all := rights()
	for i, a := range all {
		for j, b := range all {
			x, y := encoded(t, a), encoded(t, b)
			if bytes.Equal(x, y) != (i == j) || i != j && bytes.HasPrefix(x, y) {
				t.Errorf("the bytes of %v and %v", a, b)
			}
		}
	}
}

func TestP1Anything(t *testing.T) {
	odd := []api.Effect{{Kind: api.CreateIt, Tables: []api.Table{{Ref: math.MinInt}}}, {Kind: api.CommitIt, At: math.MinInt, Horizon: math.MaxInt, Changes: []api.Change{{}, {Gone: []api.Row{{}}}}}, {Kind: api.WholeIt, Versions: []api.Version{{}}}, {Kind: 200, Tables: make([]api.Table, 9)}, {Kind: api.CreateIt, Changes: make([]api.Change, 300)}}
	for _, a := range odd {
		if b, errno := redo.Encode(a); redo.Right(a) || errno != api.ErrForm || b != nil {
			t.Errorf("%v is right", a)
		}
		for _, b := range odd {
			redo.Same(a, b)
		}
	}
	d := &dice{seed: 24}
	for range 20000 {
		b := make([]byte, d.below(40))
		for i := range b {
			b[i] = byte(d.below(256) * d.below(2))
		}
		if len(b) > 0 {
			b[0] = byte(d.below(6))
		}
		if e, errno := redo.Decode(b); errno == api.OK && !bytes.Equal(encoded(t, e), b) {
			t.Fatalf("Decode(%x) = %v", b, e)
		}
	}
	for _, kind := range []byte{0, 1, 2, 3, 4, 5, 255} {
		for _, fill := range []byte{0, 1, 255} {
			b := bytes.Repeat([]byte{fill}, 100000)
			b[0] = kind
			refused(t, b)
		}
	}
}

func TestP3NothingIsShared(t *testing.T) {
	for _, e := range rights() {
		told := fmt.Sprintf("%+v", e)
		b := encoded(t, e)
		first := slices.Clone(b)
		if fmt.Sprintf("%+v", e) != told {
			t.Errorf("Encode changes %s", told)
		}
		// Bytes with something behind their end.
		room := append(slices.Clone(b), "spare"...)
		got, _ := redo.Decode(room[:len(b)])
		again, _ := redo.Decode(room[:len(b)])
		if string(room) != string(first)+"spare" {
			t.Fatal("Decode changes the bytes")
		}
		for i := range room {
			room[i] = 'z'
		}
		scribble(got)
		if !redo.Same(again, e) || fmt.Sprintf("%+v", e) != told {
			t.Fatalf("what was decoded is shared: %v, not %s", again, told)
		}
		for i := range b[:cap(b)] {
			b[:cap(b)][i] = 'z'
		}
		if !bytes.Equal(encoded(t, e), first) {
			t.Fatal("what was encoded is kept")
		}
	}
}

// scribble writes over all that an effect has.
func scribble(e api.Effect) {
	for i, x := range e.Tables {
		for j := range x.Cols {
			x.Cols[j].Name = "scribble"
		}
		e.Tables[i].Name = "scribble"
	}
	for i, c := range e.Changes {
		scribbleRows(c.Gone)
		scribbleRows(c.Come)
		e.Changes[i].Table = "scribble"
	}
	for i, v := range e.Versions {
		scribbleRows(list(v.Row))
		e.Versions[i].Table = "scribble"
	}
}

func scribbleRows(l []api.Row) {
	for i, r := range l {
		for j := range r.Vals[:cap(r.Vals)] {
			r.Vals[:cap(r.Vals)][j] = str("scribble")
		}
		l[i].Span.From = -99
	}
}

type dice struct{ seed uint64 }

func (d *dice) below(n int) int {
	d.seed = d.seed*6364136223846793005 + 1442695040888963407
	return int(d.seed >> 33 % uint64(n))
}

// What a base does is right, and told by bytes; made of these, another base has the same.
func TestP24_2EffectsOfABase(t *testing.T) {
	d := &dice{seed: 12}
	b, mirror := base.New(), base.New()
	for _, text := range []string{"create table t (k int, v text)", "create table u (m int, n int) references t by n"} {
		b.Do(0, text)
		through(t, b, mirror)
	}
	for range 400 {
		k := d.below(9)
		from := d.below(30) - 15
		b.Do(d.below(2), []string{"begin", "commit", "commit", "prune 2", fmt.Sprintf("insert into t values (%d, 'a%d') from %d to %d", k, k%3, from, from+9), fmt.Sprintf("insert into u values (%d, %d) from %d to %d", from, k, from, from+2), fmt.Sprintf("update t set v = 'ä%d' from %d to %d", k, from, from+3), fmt.Sprintf("delete t from %d to %d where k = %d", from, from+20, k), "delete u"}[d.below(9)])
		through(t, b, mirror)
		b.Tick(d.below(3))
	}
	if b.Past().Last() < 50 || b.Past().Horizon() < 20 {
		t.Errorf("little was done: %d, %d", b.Past().Last(), b.Past().Horizon())
	}
}

func through(t *testing.T, b, mirror *base.Base) {
	t.Helper()
	for _, e := range []api.Effect{b.Effect(), b.Whole()} {
		if e.Kind == api.NoEffect {
			continue
		}
		got, errno := redo.Decode(encoded(t, e))
		if errno != api.OK || !redo.Same(got, e) {
			t.Fatalf("Decode of Encode of %v = %v and %d", e, got, errno)
		}
		if e.Kind != api.WholeIt {
			if errno := mirror.Replay(got); errno != api.OK {
				t.Fatalf("Replay(%v) = %d", got, errno)
			}
		}
	}
	x, y := b.Whole(), mirror.Whole()
	x.At, y.At = 0, 0
	if !redo.Same(x, y) {
		t.Fatalf("the effects make %v, not %v", y, x)
	}
}
