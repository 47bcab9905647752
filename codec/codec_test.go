package codec_test

import (
	"bytes"
	"cmp"
	"encoding/binary"
	"math"
	"math/rand"
	"slices"
	"strings"
	"testing"

	"regesta/api"
	"regesta/codec"
	"regesta/value"
)

func num(n int64) api.Value { return api.Value{Kind: api.Int, Num: n} }

func str(s string) api.Value { return api.Value{Kind: api.Text, Str: s} }

func row(from, to int, vals ...api.Value) api.Row {
	return api.Row{Vals: vals, Span: api.Span{From: from, To: to}}
}

func sameRow(a, b api.Row) bool {
	return slices.Equal(a.Vals, b.Vals) && a.Span == b.Span
}

func zeroRow(r api.Row) bool { return len(r.Vals) == 0 && r.Span == api.Span{} }

var rightVals = []api.Value{
	num(math.MinInt64), num(-1), num(0), num(5), num(256), num(math.MaxInt64),
	str(""), str(" "), str("a"), str("aa"), str("b"), str("it's"), str("ä"), str("\U0010FFFF"), str("12345678"),
}

var wrongVals = []api.Value{
	{}, {Num: 1}, {Str: "a"}, {Kind: 3}, {Kind: 255, Num: 1, Str: "a"}, {Kind: api.Int, Str: "a"}, {Kind: api.Text, Num: 1},
	str("\x00"), str("a\x00"), str("\n"), str("\xff"), str("123456789"),
}

var rightSpans = []api.Span{
	{From: 0, To: 1}, {From: api.Least, To: api.Most}, {From: api.Least, To: api.Least + 1}, {From: api.Most - 1, To: api.Most},
	{From: -1, To: 0}, {From: 0, To: 10}, {From: 5, To: 10}, {From: -745, To: -744}, {From: -744, To: -743}, {From: -488, To: 24},
}

var wrongSpans = []api.Span{
	{}, {From: 1, To: 1}, {From: 2, To: 1}, {From: api.Least - 1, To: 0}, {From: 0, To: api.Most + 1}, {From: api.Most, To: api.Most},
	{From: api.Most, To: api.Most + 1}, {From: api.Least - 1, To: api.Most + 1}, {From: api.Least, To: api.Least},
	{From: math.MinInt, To: math.MaxInt}, {From: math.MaxInt, To: math.MinInt}, {From: 1 << 16, To: 1<<16 + 1},
}

// rightRows have from one to MaxCols values, many of them with a beginning in common.
func rightRows() []api.Row {
	var out []api.Row
	add := func(s api.Span, vals ...api.Value) {
		out = append(out, api.Row{Vals: vals, Span: s})
	}
	for _, v := range rightVals {
		for _, s := range rightSpans {
			add(s, v)
		}
		for i, w := range rightVals {
			add(rightSpans[i%len(rightSpans)], v, w)
			add(rightSpans[(i+3)%len(rightSpans)], num(5), v, w)
			add(rightSpans[(i+5)%len(rightSpans)], str("a"), num(5), v, w)
		}
	}
	return out
}

func wrongRows() []api.Row {
	one := rightVals[:1]
	out := []api.Row{{}, row(0, 1), {Vals: []api.Value{}, Span: api.Span{From: 0, To: 1}}, row(0, 1, rightVals[:api.MaxCols+1]...), row(0, 1, rightVals...), row(0, 1, make([]api.Value, 1000)...)}
	for _, s := range wrongSpans {
		out = append(out, api.Row{Vals: one, Span: s}, api.Row{Vals: rightVals[:api.MaxCols], Span: s})
	}
	for _, v := range wrongVals {
		out = append(out, row(0, 1, v), row(0, 1, v, num(5)), row(0, 1, num(5), v), row(0, 1, num(5), str("a"), num(7), v))
	}
	return out
}

func TestP4_1Right(t *testing.T) {
	for _, r := range rightRows() {
		if !codec.Right(r) {
			t.Errorf("%+v is not right", r)
		}
	}
	for _, r := range wrongRows() {
		if codec.Right(r) {
			t.Errorf("%+v is right", r)
		}
	}
	for n := range 8 {
		vals := make([]api.Value, n)
		for i := range vals {
			vals[i] = num(int64(i))
		}
		if got, want := codec.Right(row(0, 1, vals...)), n >= 1 && n <= api.MaxCols; got != want {
			t.Errorf("Right of %d values: %v", n, got)
		}
	}
}

func TestP4_1Same(t *testing.T) {
	lists := [][]api.Value{nil, {}, {{}}, {num(5)}, {num(6)}, {str("5")}, {str("")}, {num(0)}, {num(5), num(6)}, {num(6), num(5)}, {num(5), str("a")}, {num(5), str("a"), {}}, {{Kind: 9, Num: 1, Str: "x"}}, {{Kind: 9, Num: 1, Str: "y"}}, {{Kind: 8, Num: 1, Str: "x"}}, {{Kind: 9, Num: 2, Str: "x"}}, rightVals}
	for i, a := range lists {
		for j, b := range lists {
			want := i == j || len(a)+len(b) == 0
			if got := codec.Same(a, slices.Clone(b)); got != want {
				t.Errorf("Same(%v, %v) = %v", a, b, got)
			}
		}
	}
	for n := range len(rightVals) {
		if codec.Same(rightVals, rightVals[:n]) || codec.Same(rightVals[:n], rightVals) || !codec.Same(rightVals[:n], slices.Clone(rightVals[:n])) {
			t.Errorf("Same of %d values and of all", n)
		}
	}
}

// compareModel goes through all places of the longer one; a value that is not there is ahead of all.
func compareModel(a, b api.Row) int {
	for i := range max(len(a.Vals), len(b.Vals)) {
		switch {
		case i >= len(a.Vals):
			return -1
		case i >= len(b.Vals):
			return 1
		}
		if c := value.Compare(a.Vals[i], b.Vals[i]); c != 0 {
			return c
		}
	}
	return cmp.Or(cmp.Compare(a.Span.From, b.Span.From), cmp.Compare(a.Span.To, b.Span.To))
}

func TestP4_1Compare(t *testing.T) {
	all := append(rightRows(), wrongRows()...)
	for _, a := range all {
		for _, b := range all {
			if got := codec.Compare(a, b); got != compareModel(a, b) {
				t.Fatalf("Compare(%+v, %+v) = %d", a, b, got)
			}
		}
	}
	for _, c := range []struct {
		a, b api.Row
		want int
	}{
		{api.Row{}, api.Row{}, 0}, {api.Row{}, row(0, 0, num(1)), -1}, {row(9, 10), row(0, 1, num(1)), -1},
		{row(3, 4, num(5)), row(0, 1, num(5), str("x")), -1}, {row(0, 1, num(5), str("x")), row(3, 4, num(5)), 1},
		{row(3, 4, num(4), num(9)), row(0, 1, num(5)), -1}, {row(0, 9, num(1)), row(1, 2, num(1)), -1}, {row(0, 2, num(1)), row(0, 1, num(1)), 1},
		{row(0, 1, num(1)), row(0, 1, num(1)), 0}, {row(math.MinInt, 0, num(1)), row(math.MaxInt, 0, num(1)), -1}, {row(0, math.MaxInt, num(1)), row(0, math.MinInt, num(1)), 1},
		{row(5, 1, num(1)), row(4, 2, num(1)), 1}, {row(0, 1, num(9)), row(0, 1, str("")), -1},
		{row(0, 1, num(1), num(2), num(3)), row(0, 1, num(1), num(3), num(2)), -1}, {row(0, 1, rightVals...), row(0, 1, rightVals...), 0},
	} {
		if got := codec.Compare(c.a, c.b); got != c.want {
			t.Errorf("Compare(%+v, %+v) = %d", c.a, c.b, got)
		}
	}
}

// encodeModel tells the bytes of wrong values, too, as far as there are any.
func encodeModel(r api.Row) []byte {
	var out []byte
	for _, v := range r.Vals {
		switch v.Kind {
		case api.Int:
			out = binary.BigEndian.AppendUint64(append(out, 1), uint64(v.Num)^1<<63)
		case api.Text:
			out = append(append(append(out, 2), v.Str...), 0)
		default:
			out = append(append(out, byte(v.Kind)), v.Str...)
		}
	}
	from, to := r.Span.From+1000, r.Span.To+1000
	return append(out, 0, byte(from/256), byte(from%256), byte(to/256), byte(to%256))
}

func TestP4_2Encode(t *testing.T) {
	for _, c := range []struct {
		r    api.Row
		want string
	}{
		{row(0, 1, num(5)), "\x01\x80\x00\x00\x00\x00\x00\x00\x05\x00\x03\xe8\x03\xe9"},
		{row(0, 1, num(5), str("x")), "\x01\x80\x00\x00\x00\x00\x00\x00\x05\x02x\x00\x00\x03\xe8\x03\xe9"},
		{row(api.Least, api.Most, str("")), "\x02\x00\x00\x00\x00\x07\xd0"},
		{row(-745, -744, str("ab"), str("")), "\x02ab\x00\x02\x00\x00\x00\xff\x01\x00"},
		{row(999, 1000, str("a"), str("b"), str("c"), str("d")), "\x02a\x00\x02b\x00\x02c\x00\x02d\x00\x00\x07\xcf\x07\xd0"},
	} {
		if got, e := codec.Encode(c.r); string(got) != c.want || e != api.OK {
			t.Errorf("Encode(%+v) = %x, %d", c.r, got, e)
		}
	}
	for _, r := range rightRows() {
		if got, e := codec.Encode(r); !bytes.Equal(got, encodeModel(r)) || e != api.OK {
			t.Errorf("Encode(%+v) = %x, %d", r, got, e)
		}
	}
	for _, r := range wrongRows() {
		if got, e := codec.Encode(r); len(got) != 0 || e != api.ErrForm {
			t.Errorf("Encode(%+v) = %x, %d", r, got, e)
		}
	}
}

func checkRefused(t *testing.T, b []byte) {
	t.Helper()
	if got, e := codec.Decode(b); !zeroRow(got) || e != api.ErrForm {
		t.Fatalf("Decode(%x) = %+v, %d", b, got, e)
	}
}

func TestP4_2DecodeRefuses(t *testing.T) {
	checkRefused(t, nil)
	five := "\x01\x80\x00\x00\x00\x00\x00\x00\x05"
	span := "\x00\x03\xe8\x03\xe9"
	for _, b := range []string{
		"", "\x00", "\x01", "\x02", "\x03", "\xff", span, "\x00" + span, five, five + "\x00", five + "\x00\x03\xe8", five + "\x00\x03\xe8\x03",
		five + span + "\x00", five + span + span, five + span + five + span, five + "\x03" + span, "\x03" + five + span,
		"\x02a" + span[1:], "\x02\n\x00" + span, "\x02123456789\x00" + span, "\x02\xff\x00" + span, "\x02a\x00\x02\x01\x00" + span,
		strings.Repeat("\x02\x00", 5) + span, strings.Repeat("\x02\x00", 1<<16) + span, strings.Repeat(five, 5) + span, strings.Repeat("\x00", 1<<16), strings.Repeat("\x02\x00", 1<<16),
		five + "\x00\x03\xe8\x03\xe8", five + "\x00\x03\xe9\x03\xe8", five + "\x00\x00\x00\x00\x00", five + "\x00\x07\xd0\x07\xd1", five + "\x00\x00\x00\x07\xd1",
		five + "\x00\x00\x00\xff\xff", five + "\x00\xff\xff\x00\x00", five + "\x00\x07\xd0\x07\xd0", five + "\x00\xff\xfe\xff\xff",
	} {
		checkRefused(t, []byte(b))
	}
	for _, r := range wrongRows() {
		if showsInBytes(r) {
			checkRefused(t, encodeModel(r))
		}
	}
}

// showsInBytes: points that do not go into two bytes, and parts of the other kind, are not to be seen in the model's bytes.
func showsInBytes(r api.Row) bool {
	for _, p := range []int{r.Span.From, r.Span.To} {
		if p < api.Least || p >= api.Least+1<<16 {
			return false
		}
	}
	for _, v := range r.Vals {
		if v.Kind == api.Int && v.Str != "" || v.Kind == api.Text && v.Num != 0 {
			return false
		}
	}
	return true
}

// Of a few bytes at the end of a right row's all that may stand there are tried: what is taken must be the bytes of the row that is answered.
func TestP4_2DecodeTakesNothingButEncode(t *testing.T) {
	alphabet := []byte{0, 1, 2, 3, 7, 'a', 0x80, 0xcf, 0xd0, 0xd1, 0xe8, 0xff}
	taken := 0
	check := func(b []byte) {
		got, e := codec.Decode(b)
		if e == api.OK {
			taken++
			again, f := codec.Encode(got)
			if f != api.OK || !bytes.Equal(again, b) {
				t.Fatalf("Decode(%x) = %+v, whose bytes are %x", b, got, again)
			}
			return
		}
		checkRefused(t, b)
	}
	for _, begin := range []string{"\x02\x00\x00", "\x02a", "\x01\x00\x00\x00\x00\x00\x00\x00\x00\x00"} {
		level := [][]byte{[]byte(begin)}
		for range 4 {
			var next [][]byte
			for _, b := range level {
				for _, c := range alphabet {
					longer := append(bytes.Clone(b), c)
					check(longer)
					next = append(next, longer)
				}
			}
			level = next
		}
	}
	chance := rand.New(rand.NewSource(11))
	all := rightRows()
	for range 50000 {
		b := encodeModel(all[chance.Intn(len(all))])
		b[chance.Intn(len(b))] = byte(chance.Intn(256))
		check(b)
	}
	if taken < 1000 {
		t.Errorf("only %d were taken", taken)
	}
}

func TestP4_2Key(t *testing.T) {
	for _, v := range rightVals {
		b, _ := value.Bytes(v)
		for _, r := range []api.Row{row(0, 1, v), row(0, 1, v, num(5)), row(0, 1, v, str("\xff")), row(0, 0, v), row(5, 1, append([]api.Value{v}, rightVals...)...)} {
			if got := codec.Key(r); got != string(b) {
				t.Errorf("Key(%+v) = %x", r, got)
			}
		}
	}
	for _, v := range wrongVals {
		for _, r := range []api.Row{row(0, 1, v), row(0, 1, v, num(5))} {
			if got := codec.Key(r); got != "" {
				t.Errorf("Key(%+v) = %x", r, got)
			}
		}
	}
	for _, r := range []api.Row{{}, row(0, 1), {Vals: []api.Value{}}} {
		if got := codec.Key(r); got != "" {
			t.Errorf("Key(%+v) = %x", r, got)
		}
	}
	if got := codec.Key(row(0, 1, num(-1), str("x"))); got != "\x01\x7f\xff\xff\xff\xff\xff\xff\xff" {
		t.Errorf("the key -1 has %x", got)
	}
}

func TestP4_3DecodeOfEncode(t *testing.T) {
	for _, r := range rightRows() {
		b, _ := codec.Encode(r)
		if got, e := codec.Decode(b); !sameRow(got, r) || e != api.OK {
			t.Fatalf("Decode(%x) = %+v, %d", b, got, e)
		}
		for n := range len(b) {
			checkRefused(t, b[:n:n])
		}
		for _, more := range []string{"\x00", "\x01", "\xff", "\x02a\x00", "\x00\x03\xe8\x03\xe9"} {
			checkRefused(t, append(bytes.Clone(b), more...))
		}
	}
}

func TestP4_3AllSpans(t *testing.T) {
	for from := api.Least; from < api.Most; from++ {
		for _, to := range []int{from + 1, (from + 1 + api.Most) / 2, api.Most} {
			if to <= from {
				continue
			}
			r := row(from, to, num(1))
			b, e := codec.Encode(r)
			got, f := codec.Decode(b)
			if e != api.OK || f != api.OK || !sameRow(got, r) {
				t.Fatalf("Decode(%x) = %+v, %d", b, got, f)
			}
		}
	}
}

func TestP4_3NoneBeginsAnother(t *testing.T) {
	all := rightRows()
	for _, a := range all {
		x, _ := codec.Encode(a)
		for _, b := range all {
			y, _ := codec.Encode(b)
			if bytes.HasPrefix(y, x) && !sameRow(a, b) {
				t.Fatalf("%x begins %x", x, y)
			}
		}
	}
}

func TestP4_4BytesAreInOrder(t *testing.T) {
	all := rightRows()
	told := make([][]byte, len(all))
	for i, r := range all {
		told[i], _ = codec.Encode(r)
	}
	for i, a := range all {
		for j, b := range all {
			if got, want := bytes.Compare(told[i], told[j]), codec.Compare(a, b); got != want {
				t.Fatalf("the bytes of %+v and %+v: %d, the rows %d", a, b, got, want)
			}
		}
	}
}

func TestP1AnyBytes(t *testing.T) {
	chance := rand.New(rand.NewSource(13))
	few := []byte{0, 0, 1, 2, 2, 3, 7, 'a', 'b', 0xc3, 0xa4, 0xff}
	for range 100000 {
		b := make([]byte, chance.Intn(24))
		for i := range b {
			b[i] = few[chance.Intn(len(few))]
		}
		got, e := codec.Decode(b)
		again, f := codec.Encode(got)
		if e != f || e == api.OK && !bytes.Equal(again, b) || e != api.OK && (e != api.ErrForm || !zeroRow(got)) {
			t.Fatalf("Decode(%x) = %+v, %d", b, got, e)
		}
	}
}

func TestP3WhatIsHandedInStays(t *testing.T) {
	room := append(slices.Clone(rightVals[:3]), str("spare"))
	r := api.Row{Vals: room[:3], Span: api.Span{From: 0, To: 1}}
	other := row(0, 1, num(math.MinInt64), num(-1))
	was := slices.Clone(room)
	codec.Right(r)
	codec.Compare(r, other)
	codec.Compare(other, r)
	codec.Same(r.Vals, other.Vals)
	codec.Encode(r)
	codec.Key(r)
	if !slices.Equal(room, was) {
		t.Errorf("%+v became %+v", was, room)
	}
	b, _ := codec.Encode(row(0, 1, str("ab"), num(5), str("c")))
	whole := append(bytes.Clone(b), "spare"...)
	got, _ := codec.Decode(whole[:len(b)])
	if string(whole) != string(b)+"spare" {
		t.Errorf("Decode changed %x to %x", b, whole)
	}
	clear(whole)
	if !sameRow(got, row(0, 1, str("ab"), num(5), str("c"))) {
		t.Errorf("the row became %+v when the bytes were cleared", got)
	}
}

func TestP3WhatIsAnsweredIsTheCallers(t *testing.T) {
	r := row(0, 1, str("ab"), num(5))
	first, _ := codec.Encode(r)
	kept := bytes.Clone(first)
	for i := range first[:cap(first)] {
		first[:cap(first)][i] = 0xee
	}
	if second, e := codec.Encode(r); !bytes.Equal(second, kept) || e != api.OK {
		t.Errorf("Encode(%+v) = %x, %d, behind a change of an answer", r, second, e)
	}
	one, _ := codec.Decode(kept)
	two, _ := codec.Decode(kept)
	clear(one.Vals[:cap(one.Vals)])
	if !sameRow(two, r) {
		t.Errorf("an answer became %+v when another one was cleared", two)
	}
}
