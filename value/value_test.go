package value_test

import (
	"bytes"
	"encoding/binary"
	"math"
	"math/big"
	"math/rand"
	"regexp"
	"strconv"
	"strings"
	"testing"
	"unicode/utf8"

	"regesta/api"
	"regesta/value"
	"regesta/word"
)

func num(n int64) api.Value { return api.Value{Kind: api.Int, Num: n} }

func str(s string) api.Value { return api.Value{Kind: api.Text, Str: s} }

// numbers are the limits, 0, all powers of two and of ten, their neighbours, the same below 0, and some others.
func numbers() []int64 {
	out := []int64{math.MinInt64, math.MinInt64 + 1, math.MaxInt64, math.MaxInt64 - 1, -120, 120, 1009000}
	for i := range 63 {
		for d := range int64(3) {
			out = append(out, 1<<i+d-1, -(1<<i + d - 1))
		}
	}
	for p, i := int64(1), 0; i < 19; p, i = p*10, i+1 {
		out = append(out, p, p-1, p+1, -p, -p+1, -p-1)
	}
	for i := range int64(1100) {
		out = append(out, i, -i)
	}
	chance := rand.New(rand.NewSource(3))
	for range 500 {
		out = append(out, int64(chance.Uint64()>>chance.Intn(64)), -int64(chance.Uint64()>>1>>chance.Intn(63)))
	}
	return out
}

var rightTexts = []string{
	"", " ", "a", "aa", "ab", "b", "A", "z", "~", "'", "''", "it's", "''''''''", "12345678", "5", "-5", "0", "select",
	"ä", "äb", "\u0080", "\u07ff", "\u0800", "\uffff", "\uFFFD", "\U00010000", "\U0010FFFF", "a b", "a ", "aaaaaaaa",
	"ääääääää", "\U0010FFFF\U0010FFFF\U0010FFFF\U0010FFFF\U0010FFFF\U0010FFFF\U0010FFFF\U0010FFFF",
}

var wrongTexts = []string{
	"\x00", "a\x00", "\x00a", "a\x00b", "\n", "a\t", "\x1f", "\x7f", "\xff", "a\x80", "\xc3", "\xed\xa0\x80", "\xc0\x80",
	"123456789", "äääääääää", "'''''''''", strings.Repeat("a", 1<<16),
}

func rights() []api.Value {
	var out []api.Value
	for _, n := range numbers() {
		out = append(out, num(n))
	}
	for _, s := range rightTexts {
		out = append(out, str(s))
	}
	return out
}

// wrongs are values of no kind, of kinds that are none, and of one kind with a part of the other one.
func wrongs() []api.Value {
	out := []api.Value{
		{}, {Num: 1}, {Str: "a"}, {Num: 1, Str: "a"}, {Kind: 3}, {Kind: 3, Num: 5}, {Kind: 3, Str: "a"}, {Kind: 255},
		{Kind: api.Int, Str: "a"}, {Kind: api.Int, Num: 5, Str: "5"}, {Kind: api.Int, Str: " "}, {Kind: api.Int, Str: "\x00"}, {Kind: api.Int, Num: 1, Str: "\xff"},
		{Kind: api.Text, Num: 1}, {Kind: api.Text, Num: -1, Str: "a"}, {Kind: api.Text, Num: math.MinInt64}, {Kind: api.Text, Num: 1, Str: "\xff"},
	}
	for _, s := range wrongTexts {
		out = append(out, str(s))
	}
	return out
}

func TestP3_1Right(t *testing.T) {
	for _, v := range rights() {
		if !value.Right(v) {
			t.Errorf("%+v is not right", v)
		}
	}
	for _, v := range wrongs() {
		if value.Right(v) {
			t.Errorf("%+v is right", v)
		}
	}
	for k := range 256 {
		for _, n := range []int64{0, 7} {
			for _, s := range []string{"", "a", "\n"} {
				v := api.Value{Kind: api.Kind(k), Num: n, Str: s}
				want := k == 1 && s == "" || k == 2 && n == 0 && s != "\n"
				if value.Right(v) != want {
					t.Errorf("Right(%+v) = %v", v, !want)
				}
			}
		}
	}
}

func compareModel(a, b api.Value) int {
	switch {
	case a.Kind < b.Kind:
		return -1
	case a.Kind > b.Kind:
		return 1
	case a.Num < b.Num:
		return -1
	case a.Num > b.Num:
		return 1
	}
	return strings.Compare(a.Str, b.Str)
}

func TestP3_1Compare(t *testing.T) {
	all := append(rights(), wrongs()...)
	for _, a := range all {
		for _, b := range all {
			if got := value.Compare(a, b); got != compareModel(a, b) {
				t.Fatalf("Compare(%+v, %+v) = %d", a, b, got)
			}
		}
	}
	for _, c := range []struct {
		a, b api.Value
		want int
	}{
		{num(5), num(5), 0}, {num(-1), num(0), -1}, {num(math.MinInt64), num(math.MaxInt64), -1}, {num(math.MaxInt64), num(math.MinInt64), 1},
		{num(math.MaxInt64), str(""), -1}, {str(""), num(9), 1}, {str("9"), str("10"), 1}, {str("a"), str("aa"), -1}, {str("z"), str("ä"), -1},
		{api.Value{}, num(0), -1}, {api.Value{Kind: 255}, str("z"), 1}, {api.Value{}, api.Value{}, 0},
		{api.Value{Kind: api.Int, Num: 1, Str: "z"}, api.Value{Kind: api.Int, Num: 2, Str: "a"}, -1},
		{api.Value{Kind: api.Int, Num: 1, Str: "z"}, api.Value{Kind: api.Int, Num: 1, Str: "a"}, 1},
		{api.Value{Kind: api.Text, Num: 2, Str: "a"}, api.Value{Kind: api.Text, Num: 1, Str: "b"}, 1},
		{str("\xff"), str("\xfe"), 1}, {str("a\x00"), str("a"), 1},
	} {
		if got := value.Compare(c.a, c.b); got != c.want {
			t.Errorf("Compare(%+v, %+v) = %d", c.a, c.b, got)
		}
	}
}

func TestP3_1Digits(t *testing.T) {
	for n, want := range map[int64]string{0: "0", 7: "7", -7: "-7", 10: "10", -120: "-120", 1009000: "1009000", math.MaxInt64: "9223372036854775807", math.MinInt64: "-9223372036854775808"} {
		if got := value.Digits(n); got != want {
			t.Errorf("Digits(%d) = %q", n, got)
		}
	}
	for _, n := range numbers() {
		if got, want := value.Digits(n), strconv.FormatInt(n, 10); got != want {
			t.Errorf("Digits(%d) = %q", n, got)
		}
	}
}

func TestP3_2Print(t *testing.T) {
	for _, n := range numbers() {
		if got, e := value.Print(num(n)); got != strconv.FormatInt(n, 10) || e != api.OK {
			t.Errorf("Print(%d) = %q, %d", n, got, e)
		}
	}
	for _, s := range rightTexts {
		if got, e := value.Print(str(s)); got != "'"+strings.ReplaceAll(s, "'", "''")+"'" || e != api.OK {
			t.Errorf("Print(%q) = %q, %d", s, got, e)
		}
	}
	for _, v := range wrongs() {
		if got, e := value.Print(v); got != "" || e != api.ErrForm {
			t.Errorf("Print(%+v) = %q, %d", v, got, e)
		}
	}
}

var number = regexp.MustCompile(`^(0|-?[1-9][0-9]*)$`)

// parseModel tells by the form of the text, not by printing.
func parseModel(s string) (api.Value, api.Errno) {
	if number.MatchString(s) {
		n, ok := new(big.Int).SetString(s, 10)
		if !ok || !n.IsInt64() {
			return api.Value{}, api.ErrForm
		}
		return num(n.Int64()), api.OK
	}
	if len(s) < 2 || s[0] != '\'' || s[len(s)-1] != '\'' {
		return api.Value{}, api.ErrForm
	}
	inner := s[1 : len(s)-1]
	text := strings.ReplaceAll(inner, "''", "'")
	if strings.Contains(strings.ReplaceAll(inner, "''", ""), "'") || !word.Right(text) {
		return api.Value{}, api.ErrForm
	}
	return str(text), api.OK
}

func checkParse(t *testing.T, s string) {
	t.Helper()
	got, e := value.Parse(s)
	want, wantE := parseModel(s)
	if got != want || e != wantE {
		t.Fatalf("Parse(%q) = %+v, %d, not %+v, %d", s, got, e, want, wantE)
	}
}

// texts are all texts of up to so many of the bytes of an alphabet.
func texts(alphabet string, most int, f func(s string)) {
	level := []string{""}
	f("")
	for range most {
		var next []string
		for _, s := range level {
			for i := range len(alphabet) {
				longer := s + alphabet[i:i+1]
				f(longer)
				next = append(next, longer)
			}
		}
		level = next
	}
}

func TestP3_2Parse(t *testing.T) {
	for _, c := range []struct {
		s    string
		want api.Value
	}{
		{"0", num(0)}, {"7", num(7)}, {"-7", num(-7)}, {"10", num(10)}, {"9223372036854775807", num(math.MaxInt64)}, {"-9223372036854775808", num(math.MinInt64)},
		{"''", str("")}, {"'a'", str("a")}, {"'it''s'", str("it's")}, {"''''", str("'")}, {"'7'", str("7")}, {"'12345678'", str("12345678")},
		{"'" + strings.Repeat("''", 8) + "'", str("''''''''")}, {"'ä'", str("ä")},
	} {
		if got, e := value.Parse(c.s); got != c.want || e != api.OK {
			t.Errorf("Parse(%q) = %+v, %d", c.s, got, e)
		}
	}
	for _, s := range []string{
		"", "007", "01", "00", "-0", "-00", "-01", "+1", "+0", "+", "-", "--1", "-+1", " 1", "1 ", "1.0", "1e3", "0x1", "1_000", "0b1", "1a", "a", "a1", "١",
		"9223372036854775808", "-9223372036854775809", "18446744073709551616", "18446744073709551617", "99999999999999999999", "-99999999999999999999", strings.Repeat("9", 1<<16), strings.Repeat("0", 1<<16),
		"'", "'a", "a'", "'''", "'a''", "'a'b", "'a' ", " 'a'", "'a''b", "'a'b'", "'a' 'b'", "'a'''b'", "\"a\"", "'a'\x00", "'a'1", "1'a'",
		"'123456789'", "'" + strings.Repeat("''", 9) + "'", "'\n'", "'\x00'", "'\x7f'", "'\xff'", "'\xc3'", "\x00", "\xff", "null", "true", "'" + strings.Repeat("a", 1<<16) + "'",
	} {
		if got, e := value.Parse(s); got != (api.Value{}) || e != api.ErrForm {
			t.Errorf("Parse(%q) = %+v, %d", s, got, e)
		}
	}
	texts("0129-+ _", 5, func(s string) { checkParse(t, s) })
	texts("'a\xc3\xa4\n1", 6, func(s string) {
		checkParse(t, s)
		checkParse(t, "'aaaaa"+s+"'")
	})
	chance := rand.New(rand.NewSource(5))
	for range 20000 {
		digits := strconv.FormatUint(chance.Uint64(), 10)
		checkParse(t, digits)
		checkParse(t, "-"+digits)
		checkParse(t, digits[:len(digits)-1])
	}
}

func TestP3_2ParseOfPrint(t *testing.T) {
	for _, v := range rights() {
		s, _ := value.Print(v)
		if got, e := value.Parse(s); got != v || e != api.OK {
			t.Errorf("Parse(%q) = %+v, %d", s, got, e)
		}
	}
}

func bytesModel(v api.Value) []byte {
	if v.Kind == api.Int {
		u := new(big.Int).Add(big.NewInt(v.Num), new(big.Int).Lsh(big.NewInt(1), 63)).Uint64()
		return binary.BigEndian.AppendUint64([]byte{1}, u)
	}
	return append(append([]byte{2}, v.Str...), 0)
}

func TestP3_3Bytes(t *testing.T) {
	for _, c := range []struct {
		v    api.Value
		want string
	}{
		{num(-1), "\x01\x7f\xff\xff\xff\xff\xff\xff\xff"}, {num(0), "\x01\x80\x00\x00\x00\x00\x00\x00\x00"}, {num(5), "\x01\x80\x00\x00\x00\x00\x00\x00\x05"},
		{num(math.MinInt64), "\x01\x00\x00\x00\x00\x00\x00\x00\x00"}, {num(math.MaxInt64), "\x01\xff\xff\xff\xff\xff\xff\xff\xff"},
		{num(0x0102030405060708), "\x01\x81\x02\x03\x04\x05\x06\x07\x08"},
		{str(""), "\x02\x00"}, {str("ab"), "\x02ab\x00"}, {str("ä"), "\x02\xc3\xa4\x00"}, {str("'"), "\x02'\x00"},
	} {
		if got, e := value.Bytes(c.v); string(got) != c.want || e != api.OK {
			t.Errorf("Bytes(%+v) = %x, %d", c.v, got, e)
		}
	}
	for _, v := range rights() {
		if got, e := value.Bytes(v); !bytes.Equal(got, bytesModel(v)) || e != api.OK {
			t.Errorf("Bytes(%+v) = %x, %d", v, got, e)
		}
	}
	for _, v := range wrongs() {
		if got, e := value.Bytes(v); len(got) != 0 || e != api.ErrForm {
			t.Errorf("Bytes(%+v) = %x, %d", v, got, e)
		}
	}
}

// readModel takes a text's bytes one by one, up to the first 0.
func readModel(b []byte) (api.Value, int, api.Errno) {
	if len(b) >= 9 && b[0] == 1 {
		return num(int64(binary.BigEndian.Uint64(b[1:9]) ^ 1<<63)), 9, api.OK
	}
	if len(b) >= 2 && b[0] == 2 {
		for i, c := range b {
			if c == 0 {
				if text := string(b[1:i]); word.Right(text) {
					return str(text), i + 1, api.OK
				}
				break
			}
		}
	}
	return api.Value{}, 0, api.ErrForm
}

func checkRead(t *testing.T, b []byte) {
	t.Helper()
	v, n, e := value.Read(b)
	wantV, wantN, wantE := readModel(b)
	if v != wantV || n != wantN || e != wantE {
		t.Fatalf("Read(%x) = %+v, %d, %d, not %+v, %d, %d", b, v, n, e, wantV, wantN, wantE)
	}
}

func TestP3_3Read(t *testing.T) {
	for _, c := range []struct {
		b string
		v api.Value
		n int
	}{
		{"\x02\x00", str(""), 2}, {"\x02ab\x00\x09", str("ab"), 4}, {"\x02ab\x00\x00", str("ab"), 4}, {"\x02\x00ab\x00", str(""), 2},
		{"\x01\x7f\xff\xff\xff\xff\xff\xff\xff\x01", num(-1), 9}, {"\x01\x00\x00\x00\x00\x00\x00\x00\x00\x00", num(math.MinInt64), 9},
		{"\x01\xff\xff\xff\xff\xff\xff\xff\xff", num(math.MaxInt64), 9}, {"\x01\x80\x00\x00\x00\x00\x00\x00\x00", num(0), 9},
		{"\x0212345678\x00", str("12345678"), 10}, {"\x02a\x00" + strings.Repeat("\xff", 1<<16), str("a"), 3},
	} {
		if v, n, e := value.Read([]byte(c.b)); v != c.v || n != c.n || e != api.OK {
			t.Errorf("Read(%x) = %+v, %d, %d", c.b, v, n, e)
		}
	}
	for _, b := range []string{
		"", "\x00", "\x01", "\x02", "\x03", "\xff", "\x00\x00", "\x00\x02a\x00", "\x01\x80\x00\x00\x00\x00\x00\x00", "\x02a", "\x02ab\xff",
		"\x03\x80\x00\x00\x00\x00\x00\x00\x00", "\x02\n\x00", "\x02\x7f\x00", "\x02\xff\x00", "\x02\xc3\x00", "\x02\x01\x00", "\x02123456789\x00", "ab\x00", "\x82a\x00",
		"\x02\x02a\x00", "\x02" + strings.Repeat("a", 1<<16), "\x02" + strings.Repeat("a", 1<<16) + "\x00",
	} {
		if v, n, e := value.Read([]byte(b)); v != (api.Value{}) || n != 0 || e != api.ErrForm {
			t.Errorf("Read(%x) = %+v, %d, %d", b, v, n, e)
		}
	}
	if v, n, e := value.Read(nil); v != (api.Value{}) || n != 0 || e != api.ErrForm {
		t.Errorf("Read(nil) = %+v, %d, %d", v, n, e)
	}
	texts("\x00\x01\x02a\xc3\xa4\x80", 5, func(s string) {
		checkRead(t, []byte(s))
		checkRead(t, []byte("\x01"+s+"\x00\x00\x00\x00"))
		checkRead(t, []byte("\x02aaaaaa"+s+"\x00"))
	})
}

func TestP3_3ReadOfWhatIsCutOff(t *testing.T) {
	for _, v := range rights() {
		b, _ := value.Bytes(v)
		for n := range len(b) {
			if got, k, e := value.Read(b[:n:n]); got != (api.Value{}) || k != 0 || e != api.ErrForm {
				t.Fatalf("Read(%x) = %+v, %d, %d", b[:n], got, k, e)
			}
		}
	}
}

func TestP3_4BytesAreInOrder(t *testing.T) {
	all := rights()
	told := make([][]byte, len(all))
	for i, v := range all {
		told[i], _ = value.Bytes(v)
	}
	for i, a := range all {
		for j, b := range all {
			if got, want := bytes.Compare(told[i], told[j]), value.Compare(a, b); got != want {
				t.Fatalf("the bytes of %+v and %+v: %d, the values %d", a, b, got, want)
			}
		}
	}
}

func TestP3_4BytesOfTextsAreInOrder(t *testing.T) {
	var all []string
	texts(" '~\xc3\xa4", 4, func(s string) {
		if utf8.ValidString(s) {
			all = append(all, s)
		}
	})
	for _, a := range all {
		x, _ := value.Bytes(str(a))
		for _, b := range all {
			y, _ := value.Bytes(str(b))
			if bytes.Compare(x, y) != value.Compare(str(a), str(b)) {
				t.Fatalf("%q and %q have bytes in another order", a, b)
			}
		}
	}
}

func TestP3_5ReadOfBytes(t *testing.T) {
	behind := []string{"", "\x00", "\x01", "\x02", "a", "\xff", "\x00\x00", "\x02a\x00", "'", strings.Repeat("\x00", 100)}
	for _, v := range rights() {
		b, _ := value.Bytes(v)
		for _, more := range behind {
			if got, n, e := value.Read(append(bytes.Clone(b), more...)); got != v || n != len(b) || e != api.OK {
				t.Fatalf("Read(%x, %x) = %+v, %d, %d", b, more, got, n, e)
			}
		}
	}
}

func TestP3_6CompareIsAnOrder(t *testing.T) {
	all := wrongs()
	for _, n := range []int64{math.MinInt64, -1, 0, 1, 256, math.MaxInt64} {
		all = append(all, num(n))
	}
	for _, s := range rightTexts[:12] {
		all = append(all, str(s))
	}
	for _, a := range all {
		for _, b := range all {
			ab := value.Compare(a, b)
			if ab != -value.Compare(b, a) || (ab == 0) != (a == b) {
				t.Fatalf("Compare of %+v and %+v: %d, turned %d", a, b, ab, value.Compare(b, a))
			}
			for _, c := range all {
				if ab < 0 && value.Compare(b, c) < 0 && value.Compare(a, c) != -1 {
					t.Fatalf("%+v, %+v, %+v do not rise", a, b, c)
				}
			}
		}
	}
}

func TestP1AnyBytes(t *testing.T) {
	chance := rand.New(rand.NewSource(7))
	for range 50000 {
		b := make([]byte, chance.Intn(14))
		chance.Read(b)
		if len(b) > 0 && chance.Intn(4) > 0 {
			b[0] = byte(chance.Intn(3))
		}
		checkRead(t, b)
		checkParse(t, string(b))
		v := api.Value{Kind: api.Kind(chance.Intn(4)), Num: int64(chance.Uint64()) * int64(chance.Intn(2)), Str: string(b)}
		_, printE := value.Print(v)
		_, bytesE := value.Bytes(v)
		if right := value.Right(v); (printE == api.OK) != right || (bytesE == api.OK) != right {
			t.Fatalf("%+v: Right %v, Print %d, Bytes %d", v, right, printE, bytesE)
		}
	}
}

func TestP3WhatIsHandedInStays(t *testing.T) {
	for _, text := range []string{"\x02ab\x00rest", "\x01\x80\x00\x00\x00\x00\x00\x00\x05rest", "\x02ab", "\x01\x80", ""} {
		room := []byte(text + "spare")
		v, n, e := value.Read(room[:len(text)])
		if string(room) != text+"spare" {
			t.Errorf("Read changed %q to %q", text+"spare", room)
		}
		was := v
		was.Str = strings.Clone(v.Str)
		clear(room)
		if v != was {
			t.Errorf("what Read answered (%d, %d) lies in what was handed in", n, e)
		}
	}
}

func TestP3WhatIsAnsweredIsTheCallers(t *testing.T) {
	for _, v := range []api.Value{num(5), num(-1), str("ab"), str("")} {
		first, _ := value.Bytes(v)
		whole := first[:cap(first)]
		for i := range whole {
			whole[i] = 0xee
		}
		if second, e := value.Bytes(v); !bytes.Equal(second, bytesModel(v)) || e != api.OK {
			t.Errorf("Bytes(%+v) = %x, %d, behind a change of an answer", v, second, e)
		}
	}
}

func TestP6NothingIsKept(t *testing.T) {
	for range 2 {
		for _, v := range append(rights(), wrongs()...) {
			s, e := value.Print(v)
			again, f := value.Print(v)
			if s != again || e != f {
				t.Fatalf("Print(%+v) = %q, then %q", v, s, again)
			}
		}
	}
}
