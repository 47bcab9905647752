package word_test

import (
	"slices"
	"strings"
	"testing"
	"unicode/utf8"

	"regesta/api"
	"regesta/word"
)

const allKeys = "create table int text references insert into values from to update set where delete select in join on as of between and order begin commit rollback prune or not"

// texts are all texts of up to five of a few bytes: marks, letters, pieces of runes, bytes that may not be.
func texts(f func(s string)) {
	alphabet := []byte{'\'', 'a', 'Z', 0xc3, 0xa4, 0x80, '\n'}
	level := []string{""}
	f("")
	for range 5 {
		var next []string
		for _, s := range level {
			for _, b := range alphabet {
				longer := s + string([]byte{b})
				f(longer)
				next = append(next, longer)
			}
		}
		level = next
	}
}

// runesOf is the list of a text's runes, each with its bytes, by the library's decoder.
func runesOf(s string) (runes []rune, parts []string) {
	for len(s) > 0 {
		r, n := utf8.DecodeRuneInString(s)
		runes = append(runes, r)
		parts = append(parts, s[:n])
		s = s[n:]
	}
	return runes, parts
}

func rightModel(s string) bool {
	runes, parts := runesOf(s)
	for i, r := range runes {
		if r == utf8.RuneError && len(parts[i]) == 1 || r < 32 || r == 127 {
			return false
		}
	}
	return len(runes) <= api.MaxStr
}

func TestP2_1Right(t *testing.T) {
	texts(func(s string) {
		if got := word.Right(s); got != rightModel(s) {
			t.Fatalf("Right(%q) = %v", s, got)
		}
	})
	for _, c := range []struct {
		s    string
		want bool
	}{
		{"", true}, {"it's", true}, {" ", true}, {"~", true}, {"''''''''", true},
		{strings.Repeat("a", api.MaxStr), true}, {strings.Repeat("a", api.MaxStr+1), false},
		{strings.Repeat("ä", api.MaxStr), true}, {strings.Repeat("ä", api.MaxStr+1), false},
		{strings.Repeat("€", api.MaxStr), true}, {strings.Repeat("€", api.MaxStr+1), false},
		{strings.Repeat("\U0001F600", api.MaxStr), true}, {strings.Repeat("\U0001F600", api.MaxStr+1), false},
		{"\U0010FFFF", true}, {"\u0080", true}, {"\u009f", true}, {"\u2028", true},
		{"\x00", false}, {"\x1f", false}, {"a\n", false}, {"\t", false}, {"\x7f", false}, {"abc\x7f", false},
		{"\uFFFD", true}, {"a\uFFFDb", true}, {"\xff", false}, {"a\x80", false}, {"ab\xc3", false},
		{"\xed\xa0\x80", false}, {"\xc0\xaf", false}, {"\xf4\x90\x80\x80", false}, {"\uFFFD\xff", false},
		{strings.Repeat("a", api.MaxStr) + "\xff", false}, {strings.Repeat("a", 100000), false},
	} {
		if got := word.Right(c.s); got != c.want {
			t.Errorf("Right(%q) = %v", c.s, got)
		}
	}
	for i := range 256 {
		s := string(rune(i))
		if got, want := word.Right(s), i >= 32 && i != 127; got != want {
			t.Errorf("Right(%q) = %v", s, got)
		}
	}
}

func TestP2_1Key(t *testing.T) {
	for _, k := range strings.Fields(allKeys) {
		if !word.Key(k) {
			t.Errorf("%s is no key word", k)
		}
		for _, near := range []string{strings.ToUpper(k), k + "s", k + " ", " " + k, k[1:] + "_", "'" + k + "'"} {
			if word.Key(near) {
				t.Errorf("%q is a key word", near)
			}
		}
	}
	for _, s := range []string{"", "by", "is", "null", "From", "\xff", allKeys, "t", "_"} {
		if word.Key(s) {
			t.Errorf("%q is a key word", s)
		}
	}
}

func TestP2_1Name(t *testing.T) {
	for _, s := range []string{"a", "z", "t", "a_1", "a0", "z9", "a_", "abcdefgh", "a1234567", "fro", "fromm", "by", "inn", "a________"[:api.MaxName]} {
		if !word.Name(s) {
			t.Errorf("%q is no name", s)
		}
	}
	for _, s := range []string{"", "abcdefghi", "_a", "1a", "0", "_", "A", "aB", "Z", "a b", " a", "a ", "a-b", "a'", "ä", "aä", "a\x80", "\xff", "a\n", "a\x00", "a.b", "a`", "a{", "a/", "a:", strings.Repeat("a", 100000)} {
		if word.Name(s) {
			t.Errorf("%q is a name", s)
		}
	}
	for _, k := range strings.Fields(allKeys) {
		if word.Name(k) {
			t.Errorf("the key word %s is a name", k)
		}
	}
	for i := range 256 {
		b := byte(i)
		first := 'a' <= b && b <= 'z'
		later := first || '0' <= b && b <= '9' || b == '_'
		if word.Name(string([]byte{b})) != first || word.Name(string([]byte{'q', b})) != later || word.Name(string([]byte{'q', b, 'q'})) != later {
			t.Errorf("the byte %d in a name", i)
		}
	}
}

func TestP2_2Len(t *testing.T) {
	texts(func(s string) {
		runes, _ := runesOf(s)
		if got := word.Len(s); got != len(runes) {
			t.Fatalf("Len(%q) = %d", s, got)
		}
	})
	for s, want := range map[string]int{"": 0, "äb": 2, "a\x80b": 3, "\xff\xff": 2, "\uFFFD": 1, "\xed\xa0\x80": 3, "\U0001F600": 1} {
		if got := word.Len(s); got != want {
			t.Errorf("Len(%q) = %d", s, got)
		}
	}
}

func TestP2_2Front(t *testing.T) {
	texts(func(s string) {
		_, parts := runesOf(s)
		for n := -1; n <= 6; n++ {
			want := strings.Join(parts[:min(max(n, 0), len(parts))], "")
			if got := word.Front(s, n); got != want {
				t.Fatalf("Front(%q, %d) = %q", s, n, got)
			}
		}
	})
	for _, c := range []struct {
		s    string
		n    int
		want string
	}{
		{"äbc", 2, "äb"}, {"äbc", 0, ""}, {"äbc", -1, ""}, {"äbc", -1 << 63, ""}, {"äbc", 1<<63 - 1, "äbc"},
		{"äbc", 3, "äbc"}, {"", 5, ""}, {"\x80\x80a", 2, "\x80\x80"}, {"a\xc3", 2, "a\xc3"},
	} {
		if got := word.Front(c.s, c.n); got != c.want {
			t.Errorf("Front(%q, %d) = %q", c.s, c.n, got)
		}
	}
}

func foldModel(s string) string {
	var b strings.Builder
	for i := range len(s) {
		c := s[i]
		if c >= 'A' && c <= 'Z' {
			c += 32
		}
		b.WriteByte(c)
	}
	return b.String()
}

func TestP2_2Fold(t *testing.T) {
	texts(func(s string) {
		if got := word.Fold(s); got != foldModel(s) {
			t.Fatalf("Fold(%q) = %q", s, got)
		}
	})
	for s, want := range map[string]string{
		"": "", "AbÄ": "abÄ", "AZaz": "azaz", "@[`{": "@[`{", "\xc3A\xff": "\xc3a\xff", "ÉÀ\u212A": "ÉÀ\u212A", "0_9 '": "0_9 '", "SELECT": "select",
	} {
		if got := word.Fold(s); got != want {
			t.Errorf("Fold(%q) = %q", s, got)
		}
	}
}

func compareModel(a, b string) int {
	for i := range min(len(a), len(b)) {
		if a[i] != b[i] {
			if a[i] < b[i] {
				return -1
			}
			return 1
		}
	}
	switch {
	case len(a) < len(b):
		return -1
	case len(a) > len(b):
		return 1
	}
	return 0
}

func TestP2_2Compare(t *testing.T) {
	var some []string
	texts(func(s string) {
		if len(s) <= 3 {
			some = append(some, s)
		}
	})
	for _, a := range some {
		for _, b := range some {
			if got := word.Compare(a, b); got != compareModel(a, b) {
				t.Fatalf("Compare(%q, %q) = %d", a, b, got)
			}
		}
	}
	for _, c := range []struct {
		a, b string
		want int
	}{
		{"", "", 0}, {"", "a", -1}, {"a", "", 1}, {"a", "b", -1}, {"b", "a", 1}, {"a", "aa", -1},
		{"z", "zebra", -1}, {"\xff", "a", 1}, {"A", "a", -1}, {"ä", "z", 1}, {"\x00", "", 1},
	} {
		if got := word.Compare(c.a, c.b); got != c.want {
			t.Errorf("Compare(%q, %q) = %d", c.a, c.b, got)
		}
	}
}

func TestP2_3Quote(t *testing.T) {
	for s, want := range map[string]string{
		"": "''", "it's": "'it''s'", "'": "''''", "a'": "'a'''", "''": "''''''", "äö": "'äö'",
		"''''''''": "'" + strings.Repeat("''", 8) + "'",
	} {
		if got, e := word.Quote(s); got != want || e != api.OK {
			t.Errorf("Quote(%q) = %q, %d", s, got, e)
		}
	}
	for _, s := range []string{"\x80", "a\n", "123456789", "\x7f", "''''''''" + "'", "\xed\xa0\x80"} {
		if got, e := word.Quote(s); got != "" || e != api.ErrForm {
			t.Errorf("Quote(%q) = %q, %d", s, got, e)
		}
	}
	texts(func(s string) {
		got, e := word.Quote(s)
		if !rightModel(s) {
			if got != "" || e != api.ErrForm {
				t.Fatalf("Quote(%q) = %q, %d", s, got, e)
			}
			return
		}
		want := "'" + strings.Join(strings.Split(s, "'"), "''") + "'"
		if got != want || e != api.OK {
			t.Fatalf("Quote(%q) = %q, %d", s, got, e)
		}
	})
}

// unquoteModel takes one byte after the other, and looks one ahead.
func unquoteModel(s string) (string, int, api.Errno) {
	if s == "" || s[0] != '\'' {
		return "", 0, api.ErrSyntax
	}
	text := ""
	for i := 1; i < len(s); i++ {
		switch {
		case s[i] != '\'':
			text += s[i : i+1]
		case i+1 < len(s) && s[i+1] == '\'':
			text += "'"
			i++
		case !rightModel(text):
			return "", 0, api.ErrForm
		default:
			return text, i + 1, api.OK
		}
	}
	return "", len(s), api.ErrSyntax
}

func checkUnquote(t *testing.T, s string) {
	t.Helper()
	text, n, e := word.Unquote(s)
	wantText, wantN, wantE := unquoteModel(s)
	if text != wantText || n != wantN || e != wantE {
		t.Fatalf("Unquote(%q) = %q, %d, %d, not %q, %d, %d", s, text, n, e, wantText, wantN, wantE)
	}
}

func TestP2_3Unquote(t *testing.T) {
	for _, c := range []struct {
		s, text string
		n       int
		e       api.Errno
	}{
		{"'a''b'rest", "a'b", 6, api.OK}, {"''", "", 2, api.OK}, {"'' 'x'", "", 2, api.OK}, {"''''", "'", 4, api.OK},
		{"'a'", "a", 3, api.OK}, {"'a'\xff\n", "a", 3, api.OK}, {"'äö'ä", "äö", 6, api.OK}, {"'a' 'b'", "a", 3, api.OK},
		{"'" + strings.Repeat("''", 8) + "'", "''''''''", 18, api.OK},
		{"", "", 0, api.ErrSyntax}, {"a'b'", "", 0, api.ErrSyntax}, {" 'a'", "", 0, api.ErrSyntax}, {"\xff", "", 0, api.ErrSyntax},
		{"'", "", 1, api.ErrSyntax}, {"'open", "", 5, api.ErrSyntax}, {"'''", "", 3, api.ErrSyntax}, {"'a''", "", 4, api.ErrSyntax}, {"'ä", "", 3, api.ErrSyntax},
		{"'a\n", "", 3, api.ErrSyntax}, {"'\xff", "", 2, api.ErrSyntax}, {"'123456789", "", 10, api.ErrSyntax},
		{"'12345678'", "12345678", 10, api.OK}, {"'123456789'", "", 0, api.ErrForm}, {"'a\n'", "", 0, api.ErrForm}, {"'\xff'", "", 0, api.ErrForm},
		{"'\xc3'", "", 0, api.ErrForm}, {"'\x7f'x", "", 0, api.ErrForm}, {"'" + strings.Repeat("''", 9) + "'", "", 0, api.ErrForm},
		{"'\uFFFD'", "\uFFFD", 5, api.OK},
	} {
		if text, n, e := word.Unquote(c.s); text != c.text || n != c.n || e != c.e {
			t.Errorf("Unquote(%q) = %q, %d, %d", c.s, text, n, e)
		}
	}
	texts(func(s string) {
		checkUnquote(t, s)
		checkUnquote(t, "'"+s)
		checkUnquote(t, "'"+s+"'")
		checkUnquote(t, "'"+s+"'x'")
		checkUnquote(t, "'aaaaaa"+s+"'")
	})
}

func TestP2_4UnquoteOfQuote(t *testing.T) {
	behind := []string{"", "x", " ", "\n", "\xff", "ä", "x'", " ''", "\x80'", "), ('b'"}
	check := func(s string) {
		q, e := word.Quote(s)
		if e != api.OK {
			return
		}
		for _, more := range behind {
			if text, n, e := word.Unquote(q + more); text != s || n != len(q) || e != api.OK {
				t.Fatalf("Unquote(%q) = %q, %d, %d", q+more, text, n, e)
			}
		}
	}
	texts(check)
	for _, s := range []string{"''''''''", "'äöüäöü'", "12345678", "a''''''b", "\U0010FFFF'\uFFFD"} {
		if _, e := word.Quote(s); e != api.OK {
			t.Errorf("Quote(%q): %d", s, e)
		}
		check(s)
	}
}

func TestP2_5CompareIsTheOrderOfRunes(t *testing.T) {
	runes := []rune{' ', '\'', '0', 'A', 'a', 'z', '~', 0x80, 0xe4, 0x7ff, 0x800, 0x20ac, 0xd7ff, 0xe000, 0xfffd, 0xffff, 0x10000, 0x1f600, 0x10ffff}
	lists := [][]rune{nil}
	for _, a := range runes {
		lists = append(lists, []rune{a})
		for _, b := range runes {
			lists = append(lists, []rune{a, b})
		}
	}
	for _, a := range lists {
		for _, b := range lists {
			x, y := string(a), string(b)
			if !word.Right(x) || !word.Right(y) {
				t.Fatalf("%q or %q is not right", x, y)
			}
			if got := word.Compare(x, y); got != slices.Compare(a, b) {
				t.Fatalf("Compare(%q, %q) = %d", x, y, got)
			}
		}
	}
}

func TestP2_6FrontBegins(t *testing.T) {
	texts(func(s string) {
		for n := range 7 {
			front := word.Front(s, n)
			if word.Len(front) > n || !strings.HasPrefix(s, front) {
				t.Fatalf("Front(%q, %d) = %q", s, n, front)
			}
		}
	})
}

func TestP1LongTexts(t *testing.T) {
	for _, piece := range []string{"'", "a", "A", "ä", "\xff", "''", "\x00", "'a"} {
		s := strings.Repeat(piece, 1<<17)
		runes, _ := runesOf(s)
		if word.Right(s) || word.Name(s) || word.Key(s) || word.Len(s) != len(runes) || word.Front(s, 1<<20) != s || word.Compare(s, s) != 0 || word.Fold(s) != foldModel(s) {
			t.Errorf("a long text of %q is told wrong", piece)
		}
		if _, e := word.Quote(s); e != api.ErrForm {
			t.Errorf("Quote of a long text of %q: %d", piece, e)
		}
		if _, n, e := word.Unquote("x" + s); n != 0 || e != api.ErrSyntax {
			t.Errorf("Unquote of a long text of %q: %d, %d", piece, n, e)
		}
	}
	open := "'" + strings.Repeat("a", 1<<17)
	if _, n, e := word.Unquote(open); n != len(open) || e != api.ErrSyntax {
		t.Errorf("a long open text: %d, %d", n, e)
	}
	if _, n, e := word.Unquote(open + "'"); n != 0 || e != api.ErrForm {
		t.Errorf("a long closed text: %d, %d", n, e)
	}
	marks := strings.Repeat("'", 1<<17)
	if _, n, e := word.Unquote(marks); n != 0 || e != api.ErrForm {
		t.Errorf("marks, an even number: %d, %d", n, e)
	}
	if _, n, e := word.Unquote(marks + "'"); n != len(marks)+1 || e != api.ErrSyntax {
		t.Errorf("marks, an odd number: %d, %d", n, e)
	}
}

// What a call answers hangs on its arguments alone, so a second one, behind others, answers the same.
func TestP6NothingIsKept(t *testing.T) {
	for range 3 {
		if !word.Key("from") || word.Key("by") || !word.Name("by") || word.Name("from") {
			t.Fatal("key words change")
		}
		if q, e := word.Quote("a'b"); q != "'a''b'" || e != api.OK {
			t.Fatal("Quote changes")
		}
		if _, e := word.Quote("\n"); e != api.ErrForm {
			t.Fatal("Quote changes")
		}
		if s, n, e := word.Unquote("'a''b'"); s != "a'b" || n != 6 || e != api.OK {
			t.Fatal("Unquote changes")
		}
	}
}
