package lex_test

import (
	"math"
	"slices"
	"strconv"
	"strings"
	"testing"
	"unicode/utf8"

	"regesta/api"
	"regesta/lex"
	"regesta/word"
)

// The calls are those of the chapter.
var (
	_ func(string) ([]api.Token, int, api.Errno) = lex.Tokens
	_ func(string) string                        = lex.Signed
	_ func(rune) bool                            = lex.Spaced
)

const (
	allSigns = "<= >= <> ( ) , = < > *"
	letters  = "abcdefghijklmnopqrstuvwxyzABCDEFGHIJKLMNOPQRSTUVWXYZ"
	digits   = "0123456789"
	between  = " \t\n\r"
)

// texts are all texts of up to n of the pieces.
func texts(n int, pieces []string, f func(text string)) {
	f("")
	level := []string{""}
	for range n {
		var next []string
		for _, front := range level {
			for _, p := range pieces {
				f(front + p)
				next = append(next, front+p)
			}
		}
		level = next
	}
}

func signModel(text string) string {
	found := ""
	for _, sign := range strings.Fields(allSigns) {
		if strings.HasPrefix(text, sign) && len(sign) > len(found) {
			found = sign
		}
	}
	return found
}

// frontOf is what a text begins with of bytes that stand in set.
func frontOf(text, set string) string {
	return text[:len(text)-len(strings.TrimLeft(text, set))]
}

// stringModel takes one byte after the other, and looks one ahead; without a string it is no bytes.
func stringModel(from string) (string, int) {
	text := ""
	for i := 1; i < len(from); i++ {
		switch {
		case from[i] != '\'':
			text += from[i : i+1]
		case strings.HasPrefix(from[i:], "''"):
			text += "'"
			i++
		case !utf8.ValidString(text) || utf8.RuneCountInString(text) > api.MaxStr:
			return "", 0
		case strings.ContainsFunc(text, func(r rune) bool { return r < 32 || r == 127 }):
			return "", 0
		default:
			return text, i + 1
		}
	}
	return "", 0
}

// tokenModel is the token at the front, and its bytes: none, if it is wrong.
func tokenModel(rest string) (api.Token, int) {
	minus := len(rest) - len(strings.TrimPrefix(rest, "-"))
	number := rest[:minus+len(frontOf(rest[minus:], digits))]
	switch {
	case frontOf(rest, letters) != "":
		size := len(frontOf(rest, letters+digits+"_"))
		if size > 12 {
			return api.Token{}, 0
		}
		return api.Token{Kind: api.Word, Text: strings.ToLower(rest[:size])}, size
	case number != "":
		n, err := strconv.ParseInt(number, 10, 64)
		if err != nil || strconv.FormatInt(n, 10) != number {
			return api.Token{}, 0
		}
		return api.Token{Kind: api.Number, Text: number, Num: n}, len(number)
	case rest[0] == '\'':
		text, size := stringModel(rest)
		return api.Token{Kind: api.String, Text: text}, size
	}
	sign := signModel(rest)
	return api.Token{Kind: api.Sign, Text: sign}, len(sign)
}

// model cuts one token after the other off the front of what is left.
func model(text string) ([]api.Token, int, api.Errno) {
	if len(text) > api.MaxText {
		return nil, 0, api.ErrSpace
	}
	var out []api.Token
	for rest := strings.TrimLeft(text, between); rest != ""; rest = strings.TrimLeft(rest, between) {
		at := len(text) - len(rest)
		x, size := tokenModel(rest)
		if size == 0 {
			return nil, at, api.ErrSyntax
		}
		x.At = at
		out = append(out, x)
		if len(out) > api.MaxTokens {
			return nil, at, api.ErrSpace
		}
		rest = rest[size:]
	}
	return out, 0, api.OK
}

func check(t *testing.T, text string) {
	t.Helper()
	got, at, e := lex.Tokens(text)
	want, wantAt, wantE := model(text)
	if at != wantAt || e != wantE || !slices.Equal(got, want) {
		t.Fatalf("Tokens(%q) = %v, %d, %d, not %v, %d, %d", text, got, at, e, want, wantAt, wantE)
	}
}

func w(text string, at int) api.Token { return api.Token{Kind: api.Word, Text: text, At: at} }
func s(text string, at int) api.Token { return api.Token{Kind: api.String, Text: text, At: at} }
func g(text string, at int) api.Token { return api.Token{Kind: api.Sign, Text: text, At: at} }
func n(num int64, at int) api.Token {
	return api.Token{Kind: api.Number, Text: strconv.FormatInt(num, 10), Num: num, At: at}
}

func wantTokens(t *testing.T, text string, want ...api.Token) {
	t.Helper()
	if got, at, e := lex.Tokens(text); e != api.OK || at != 0 || !slices.Equal(got, want) {
		t.Errorf("Tokens(%q) = %v, %d, %d, not %v", text, got, at, e, want)
	}
}

func wantError(t *testing.T, text string, at int, e api.Errno) {
	t.Helper()
	if got, gotAt, gotE := lex.Tokens(text); len(got) != 0 || gotAt != at || gotE != e {
		t.Errorf("Tokens(%q) = %v, %d, %d, not %d, %d", text, got, gotAt, gotE, at, e)
	}
}

func TestP10_1Spaced(t *testing.T) {
	for r := rune(-5); r <= utf8.MaxRune+5; r++ {
		if got, want := lex.Spaced(r), r == 32 || r == 9 || r == 10 || r == 13; got != want {
			t.Fatalf("Spaced(%d) = %v", r, got)
		}
	}
	if lex.Spaced(math.MinInt32) || lex.Spaced(math.MaxInt32) || lex.Spaced(32+1<<24) {
		t.Error("a rune that is none is spaced")
	}
}

func TestP10_1Signed(t *testing.T) {
	for text, want := range map[string]string{
		"": "", "<": "<", "<=": "<=", "<>": "<>", "<<": "<", "< =": "<", "<=>": "<=", "<>=": "<>", ">": ">", ">=": ">=", "><": ">", ">>": ">", ">==": ">=",
		"=": "=", "==": "=", "=<": "=", "=>": "=", "(": "(", "()": "(", ")": ")", "))": ")", ",": ",", ",<=": ",", "*": "*", "**": "*", "*=": "*",
		"a": "", " <": "", "!=": "", "-": "", "+": "", "/": "", "'<'": "", "a<": "", "1": "", ";": "", "\xff<": "", "\x00": "", "ä": "", "\n(": "",
	} {
		if got := lex.Signed(text); got != want {
			t.Errorf("Signed(%q) = %q", text, got)
		}
	}
	texts(3, []string{"<", ">", "=", "(", ")", ",", "*", "a", " ", "-", "\xff"}, func(text string) {
		if got := lex.Signed(text); got != signModel(text) {
			t.Fatalf("Signed(%q) = %q", text, got)
		}
	})
	for i := range 256 {
		b := string([]byte{byte(i)})
		want := ""
		if strings.Contains("(),=<>*", b) {
			want = b
		}
		if got := lex.Signed(b); got != want {
			t.Errorf("Signed(%q) = %q", b, got)
		}
	}
}

func TestP10_1Examples(t *testing.T) {
	wantTokens(t, "a<=-5 'b''c'", w("a", 0), g("<=", 1), n(-5, 3), s("b'c", 6))
	wantTokens(t, "")
	wantTokens(t, " \t\r\n ")
	wantTokens(t, "Insert INTO t Values (1, 'X')", w("insert", 0), w("into", 7), w("t", 12), w("values", 14), g("(", 21), n(1, 22), g(",", 23), s("X", 25), g(")", 28))
	wantTokens(t, "references", w("references", 0))
}

func TestP10_1AllShortTexts(t *testing.T) {
	look := func(text string) { check(t, text) }
	texts(5, []string{"a", "Z", "0", "7", "_", "-", "'", "<", "=", ">", " ", "\n", "\xc3", "\xa4"}, look)
	texts(7, []string{"'", "a", " ", "1"}, look)
	texts(4, []string{"(", ")", ",", "=", "<", ">", "*", "-", "x", "5", "''", "\t", "\r", "ä", ".", "\x00"}, look)
}

func TestP10_1EachByte(t *testing.T) {
	for i := range 256 {
		b := string([]byte{byte(i)})
		for _, text := range []string{b, "a" + b, b + "a", "a " + b + " a", "1" + b, b + "1", "-" + b, "<" + b, b + "=", "'" + b + "'", "'a'" + b, b + "'a'"} {
			check(t, text)
		}
		for j := range 256 {
			check(t, b+string([]byte{byte(j)}))
		}
	}
}

// Of all signs each two stand side by side, the longest one that fits being the first.
func TestP10_1Signs(t *testing.T) {
	all := strings.Fields(allSigns)
	for _, a := range all {
		wantTokens(t, a, g(a, 0))
		for _, b := range all {
			wantTokens(t, a+" "+b, g(a, 0), g(b, len(a)+1))
			check(t, a+b)
		}
	}
	wantTokens(t, "<=>", g("<=", 0), g(">", 2))
	wantTokens(t, "<>=", g("<>", 0), g("=", 2))
	wantTokens(t, "< =", g("<", 0), g("=", 2))
	wantTokens(t, "=<", g("=", 0), g("<", 1))
	wantTokens(t, "><", g(">", 0), g("<", 1))
	wantTokens(t, "<<=", g("<", 0), g("<=", 1))
	wantTokens(t, "==", g("=", 0), g("=", 1))
}

func TestP10_1Words(t *testing.T) {
	full := strings.Repeat("a", api.MaxName+4)
	wantTokens(t, full, w(full, 0))
	wantTokens(t, "<"+full+">", g("<", 0), w(full, 1), g(">", 13))
	wantTokens(t, "Abc_1 Z z_ a1b2", w("abc_1", 0), w("z", 6), w("z_", 8), w("a1b2", 11))
	wantTokens(t, "A________999", w("a________999", 0))
	wantTokens(t, "a'b'c", w("a", 0), s("b", 1), w("c", 4))
	wantTokens(t, "a-5", w("a", 0), n(-5, 1))
	wantError(t, full+"a", 0, api.ErrSyntax)
	wantError(t, full+"1", 0, api.ErrSyntax)
	wantError(t, full+"_", 0, api.ErrSyntax)
	wantError(t, "a "+full+"a", 2, api.ErrSyntax)
	wantError(t, strings.Repeat("x", api.MaxText), 0, api.ErrSyntax)
	wantError(t, "_", 0, api.ErrSyntax)
	wantError(t, "_a", 0, api.ErrSyntax)
	wantError(t, "a _", 2, api.ErrSyntax)
	wantError(t, "aä", 1, api.ErrSyntax)
	wantError(t, "a\u212A", 1, api.ErrSyntax)
	wantError(t, "\u0661", 0, api.ErrSyntax)
}

func TestP10_1Numbers(t *testing.T) {
	wantTokens(t, "0", n(0, 0))
	wantTokens(t, "-1", n(-1, 0))
	wantTokens(t, "10 -10", n(10, 0), n(-10, 3))
	wantTokens(t, "9223372036854775807", n(math.MaxInt64, 0))
	wantTokens(t, "-9223372036854775808", n(math.MinInt64, 0))
	wantTokens(t, "5-3", n(5, 0), n(-3, 1))
	wantTokens(t, "5a", n(5, 0), w("a", 1))
	wantTokens(t, "5A_1", n(5, 0), w("a_1", 1))
	wantTokens(t, "-5x7", n(-5, 0), w("x7", 2))
	wantTokens(t, "5'a'", n(5, 0), s("a", 1))
	wantTokens(t, "5,6", n(5, 0), g(",", 1), n(6, 2))
	wantTokens(t, "(-7)", g("(", 0), n(-7, 1), g(")", 3))
	for _, text := range []string{
		"9223372036854775808", "-9223372036854775809", "18446744073709551616", strings.Repeat("9", 300), "007", "00", "01", "-0", "-00", "-01",
		"-", "- 5", "-a", "--5", "-'a'", "-(", "-=", "-\xff", "-_", "-\n5", "+5", ".5", "01a",
	} {
		wantError(t, text, 0, api.ErrSyntax)
		wantError(t, "a "+text, 2, api.ErrSyntax)
	}
	wantError(t, "5_", 1, api.ErrSyntax)
	wantError(t, "5-", 1, api.ErrSyntax)
	wantError(t, "5--3", 1, api.ErrSyntax)
	wantError(t, "5-a", 1, api.ErrSyntax)
	wantError(t, "5-03", 1, api.ErrSyntax)
	wantError(t, "5.5", 1, api.ErrSyntax)
	wantError(t, "5ä", 1, api.ErrSyntax)
}

func TestP10_1Strings(t *testing.T) {
	wantTokens(t, "''", s("", 0))
	wantTokens(t, "''''", s("'", 0))
	wantTokens(t, "'a' 'b'", s("a", 0), s("b", 4))
	wantTokens(t, "'a''b'", s("a'b", 0))
	wantTokens(t, "'AbC'", s("AbC", 0))
	wantTokens(t, "'äö€'x", s("äö€", 0), w("x", 9))
	wantTokens(t, "'a'B", s("a", 0), w("b", 3))
	wantTokens(t, "'a'5", s("a", 0), n(5, 3))
	wantTokens(t, "'a'-5", s("a", 0), n(-5, 3))
	wantTokens(t, "'a'<='b'", s("a", 0), g("<=", 3), s("b", 5))
	wantTokens(t, "'< ( -'", s("< ( -", 0))
	wantTokens(t, "'from'from", s("from", 0), w("from", 6))
	wantTokens(t, "'\uFFFD'", s("\uFFFD", 0))
	eight, marks := strings.Repeat("€", api.MaxStr), strings.Repeat("'", 2*api.MaxStr)
	wantTokens(t, "a '"+eight+"'", w("a", 0), s(eight, 2))
	wantTokens(t, "'"+marks+"'", s(marks[:api.MaxStr], 0))
	for _, text := range []string{
		"'", "'a", "'''", "'a''", "'a'' ", "'abcdefghi'", "'" + eight + "a'", "'" + marks + "'''", "'\n'", "'\t'", "'\x7f'", "'\x00'", "'\xff'", "'\xc3'", "'\xed\xa0\x80'", "'\xff", "'a\nb' 'c'",
	} {
		wantError(t, text, 0, api.ErrSyntax)
		wantError(t, "5 a,"+text, 4, api.ErrSyntax)
	}
	wantError(t, "'a'_", 3, api.ErrSyntax)
	wantError(t, "'a'ä", 3, api.ErrSyntax)
	wantError(t, "'a' '", 4, api.ErrSyntax)
	wantError(t, "'a'\xff'", 3, api.ErrSyntax)
}

func TestP10_1Between(t *testing.T) {
	for _, b := range between {
		wantTokens(t, "a"+string(b)+"b", w("a", 0), w("b", 2))
		wantTokens(t, string(b)+"a"+string(b), w("a", 1))
	}
	for _, b := range []string{"\v", "\f", "\x00", "\x1f", "\u0085", "\u00a0", "\u1680", "\u2028", "\u3000", "\ufeff", "\x7f", "\x80", "\xff", "\uFFFD", ".", ";", ":", "\"", "`", "!", "+", "/", "@", "[", "{", "~"} {
		wantError(t, "a"+b+"b", 1, api.ErrSyntax)
		wantError(t, " "+b, 1, api.ErrSyntax)
		wantError(t, b, 0, api.ErrSyntax)
	}
}

func TestP10_1MaxText(t *testing.T) {
	blanks := strings.Repeat(" ", api.MaxText)
	wantTokens(t, blanks)
	wantTokens(t, blanks[1:]+"a", w("a", api.MaxText-1))
	wantError(t, blanks[1:]+"_", api.MaxText-1, api.ErrSyntax)
	wantError(t, blanks+" ", 0, api.ErrSpace)
	// Its length is told ahead of all else.
	wantError(t, "_"+blanks, 0, api.ErrSpace)
	wantError(t, "a _"+blanks, 0, api.ErrSpace)
	wantError(t, strings.Repeat(",", api.MaxText+1), 0, api.ErrSpace)
	wantError(t, strings.Repeat("\xff", api.MaxText+1), 0, api.ErrSpace)
	// It is bytes that are counted, not runes.
	wantError(t, "'"+strings.Repeat("€", api.MaxText/3+1)+"'", 0, api.ErrSpace)
}

func TestP10_1MaxTokens(t *testing.T) {
	for _, piece := range []string{",", "a ", "5 ", "'' ", "<=", "-1", "5a ", "a,"} {
		one, _, _ := model(piece)
		full := strings.Repeat(piece, api.MaxTokens/len(one))
		if l, _, e := lex.Tokens(full); len(l) != api.MaxTokens || e != api.OK {
			t.Errorf("%d tokens of %q, %d", len(l), piece, e)
		}
		for _, more := range []string{"", "a", " a", "  -5", ",", "''", " \t\n", "_", " _ a", " 007", "'", " '\xff'", " thirteenchars", "a _", ", '", " -", "\xff", " ,,,"} {
			check(t, full+more)
		}
	}
	hundred := strings.Repeat(",", api.MaxTokens)
	wantError(t, hundred+"  a", api.MaxTokens+2, api.ErrSpace)
	wantError(t, hundred+" a _", api.MaxTokens+1, api.ErrSpace)
	// What is no token is told as that, though it stands where no token may.
	wantError(t, hundred+" _", api.MaxTokens+1, api.ErrSyntax)
	wantError(t, hundred+" 'a", api.MaxTokens+1, api.ErrSyntax)
	wantError(t, "_"+hundred, 0, api.ErrSyntax)
	wantError(t, hundred[1:]+"_,,,", api.MaxTokens-1, api.ErrSyntax)
}

// statements are texts of the kind that the store is given, and some that only tokens can be made of.
func statements() []string {
	return []string{
		"", "a", "create table t (k int, v text, r int references p)", "insert into t values (1, 'it''s', -5) from 0 to 10",
		"update t set v = 'X' from 2 to 4 where k >= 1 and not (v <> 'b' or v<'c')", "select a,b in t join u on a = b as of 5 order a",
		"delete t where k=-9223372036854775808", "prune 0", "5a'b'c-3,(*)<=>", "A1_ Zz\n\t\r'A'", "'a' 'b'", "1 2 3", "''a 'b''C'",
	}
}

// source is how a token stands in the text.
func source(text string, x api.Token) string {
	switch x.Kind {
	case api.String:
		quoted, _ := word.Quote(x.Text)
		return quoted
	case api.Word:
		return text[x.At:][:len(x.Text)]
	}
	return x.Text
}

// Each token stands at its place, and nothing but what may stand between tokens is left over.
func TestP10_2Places(t *testing.T) {
	look := func(text string) {
		l, _, e := lex.Tokens(text)
		if e != api.OK {
			return
		}
		behind := 0
		for _, x := range l {
			if x.At < behind || strings.Trim(text[behind:x.At], between) != "" {
				t.Fatalf("Tokens(%q) = %v: what stands ahead of %d", text, l, x.At)
			}
			from := source(text, x)
			if !strings.HasPrefix(text[x.At:], from) || x.Kind == api.Word && word.Fold(from) != x.Text {
				t.Fatalf("Tokens(%q) = %v: what stands at %d", text, l, x.At)
			}
			behind = x.At + len(from)
		}
		if strings.Trim(text[behind:], between) != "" {
			t.Fatalf("Tokens(%q) = %v: what stands behind", text, l)
		}
	}
	for _, text := range statements() {
		look(text)
	}
	texts(5, []string{"a", "B", "0", "7", "-", "'", "<", "=", " ", "\n", "ä"}, look)
}

// spread lays more ahead of each token, and behind the last one.
func spread(text string, l []api.Token, more string) string {
	out, behind := "", 0
	for _, x := range l {
		out += text[behind:x.At] + more
		behind = x.At
	}
	return out + text[behind:] + more
}

func TestP10_3MoreBetween(t *testing.T) {
	look := func(text string) {
		l, _, e := lex.Tokens(text)
		if e != api.OK {
			return
		}
		for _, more := range []string{" ", "\t", "\n", "\r", "\r\n \t"} {
			wider := spread(text, l, more)
			want := slices.Clone(l)
			for i := range want {
				want[i].At += (i + 1) * len(more)
			}
			got, at, e := lex.Tokens(wider)
			if e != api.OK || at != 0 || !slices.Equal(got, want) {
				t.Fatalf("Tokens(%q) = %v, %d, %d, but %v of %q", wider, got, at, e, l, text)
			}
		}
	}
	for _, text := range statements() {
		look(text)
	}
	texts(4, []string{"a", "B", "0", "7", "-", "'", "<", "=", ">", "(", " ", "\n"}, look)
}

// outside changes a text but within strings.
func outside(text string, change func(string) string) string {
	parts := strings.Split(text, "'")
	for i := range parts {
		if i%2 == 0 {
			parts[i] = change(parts[i])
		}
	}
	return strings.Join(parts, "'")
}

func TestP10_4Capitals(t *testing.T) {
	look := func(text string) {
		l, at, e := lex.Tokens(text)
		for _, other := range []string{outside(text, strings.ToUpper), outside(text, strings.ToLower)} {
			got, gotAt, gotE := lex.Tokens(other)
			if gotAt != at || gotE != e || !slices.Equal(got, l) {
				t.Fatalf("Tokens(%q) = %v, %d, %d, but %v, %d, %d of %q", other, got, gotAt, gotE, l, at, e, text)
			}
		}
	}
	for _, text := range statements() {
		look(text)
	}
	texts(5, []string{"a", "B", "0", "_", "-", "'", "<", " "}, look)
	wantTokens(t, "SELECT 'SELECT'", w("select", 0), s("SELECT", 7))
	wantTokens(t, "'a' 'A'", s("a", 0), s("A", 4))
	for i := range letters {
		b := letters[i : i+1]
		wantTokens(t, b+"Q"+b, w(strings.ToLower(b)+"q"+strings.ToLower(b), 0))
		wantTokens(t, "'"+b+"'", s(b, 0))
	}
}

func TestP1LongTexts(t *testing.T) {
	for _, piece := range []string{"a", "'", "1", "-", "<", " ", "ä", "\xff", "''", "\x00", "(", "a "} {
		wantError(t, strings.Repeat(piece, 1<<17), 0, api.ErrSpace)
		if got := lex.Signed(strings.Repeat(piece, 1<<17)); got != signModel(piece) {
			t.Errorf("Signed of many %q = %q", piece, got)
		}
		for size := range api.MaxText + 2 {
			check(t, strings.Repeat(piece, size))
		}
	}
}

func TestP3WhatIsAnsweredIsTheCallers(t *testing.T) {
	text := "select * in t"
	first, _, _ := lex.Tokens(text)
	second, _, _ := lex.Tokens(text)
	clear(first[:cap(first)])
	third, _, _ := lex.Tokens(text)
	want, _, _ := model(text)
	if !slices.Equal(second, want) || !slices.Equal(third, want) {
		t.Errorf("answers share: %v, %v", second, third)
	}
}

// What a call answers hangs on its text alone, so a second one, behind others, answers the same.
func TestP6NothingIsKept(t *testing.T) {
	for range 3 {
		for _, text := range append(statements(), "_", "a '", strings.Repeat("a", 13), strings.Repeat(",", 101), strings.Repeat(" ", 401)) {
			check(t, text)
		}
	}
}
