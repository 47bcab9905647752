// Package word is texts, rune by rune. See ../../shared/doc/02-word.md.
package word

import (
	"strings"
	"unicode/utf8"

	"regesta/api"
)

const mark = "'"

// Right tells whether a text may be a value; Name whether it may be a name; Key whether it is a key word.
func Right(s string) bool {
	count := 0
	for _, r := range s {
		count++
		if count > api.MaxStr || r < 32 || r == 127 {
			return false
		}
	}
	// A byte that is no UTF-8 looks like U+FFFD above, which by itself is right.
	return utf8.ValidString(s)
}

func Name(s string) bool {
	if len(s) < 1 || len(s) > api.MaxName {
		return false
	}
	for i, r := range s {
		if !isSmall(r) && (i == 0 || !isDigit(r) && r != '_') {
			return false
		}
	}
	return !Key(s)
}

func Key(s string) bool {
	_, ok := keyWords()[s]
	return ok
}

// Len is how many runes a text has; Front are the first ones; Fold has small letters for capitals; Compare tells which comes first.
func Len(s string) int {
	count := 0
	for range s {
		count++
	}
	return count
}

func Front(s string, n int) string {
	if n < 1 {
		return ""
	}
	count := 0
	for i := range s {
		if count == n {
			return s[:i]
		}
		count++
	}
	return s
}

func Fold(s string) string {
	// Only the capitals' bytes are written, so that bytes that are no UTF-8 stay what they are.
	folded := []byte(s)
	for i, r := range s {
		if 'A' <= r && r <= 'Z' {
			folded[i] = byte(r - 'A' + 'a')
		}
	}
	return string(folded)
}

func Compare(a, b string) int {
	return strings.Compare(a, b)
}

// Quote is a text within marks; Unquote the one that a text begins with, and how many bytes it is.
func Quote(s string) (string, api.Errno) {
	if !Right(s) {
		return "", api.ErrForm
	}
	return mark + strings.ReplaceAll(s, mark, mark+mark) + mark, api.OK
}

func Unquote(s string) (string, int, api.Errno) {
	if !strings.HasPrefix(s, mark) {
		return "", 0, api.ErrSyntax
	}
	end, ok := closingMark(s)
	if !ok {
		return "", len(s), api.ErrSyntax
	}
	// The text itself must be right, not its quoted form, which may be twice as long.
	text := strings.ReplaceAll(s[1:end], mark+mark, mark)
	if !Right(text) {
		return "", 0, api.ErrForm
	}
	return text, end + 1, api.OK
}

// closingMark tells where the mark stands that ends what the first byte of s, a mark, begins. Whether a mark is that one shows only at the rune behind it.
func closingMark(s string) (int, bool) {
	alone := false
	for i, r := range s {
		switch {
		case i == 0:
		case r == '\'':
			alone = !alone
		case alone:
			return i - 1, true
		}
	}
	if alone {
		return len(s) - 1, true
	}
	return 0, false
}

func isSmall(r rune) bool { return 'a' <= r && r <= 'z' }
func isDigit(r rune) bool { return '0' <= r && r <= '9' }

func keyWords() map[string]struct{} {
	return map[string]struct{}{
		"create": {}, "table": {}, "int": {}, "text": {}, "references": {},
		"insert": {}, "into": {}, "values": {}, "from": {}, "to": {},
		"update": {}, "set": {}, "where": {}, "delete": {}, "select": {},
		"in": {}, "join": {}, "on": {}, "as": {}, "of": {},
		"between": {}, "and": {}, "order": {}, "begin": {}, "commit": {},
		"rollback": {}, "prune": {}, "or": {}, "not": {},
	}
}
