package parse_test

import (
	"slices"
	"strconv"
	"strings"
	"testing"

	"regesta/api"
	"regesta/parse"
	"regesta/show"
)

// grammar is the chapter's table; what may be left out, or come more often, is a form of its own.
var grammar = map[string][]string{
	"STMT": {
		"create table NAME ( COLUMN COLUMNS ) REFERENCES",
		"insert into NAME values ( LITERAL LITERALS ) from N to N",
		"update NAME set SET SETS SPAN WHERE",
		"delete NAME SPAN WHERE",
		"select * in NAME JOIN TIME WHERE ORDER",
		"select NAME NAMES in NAME JOIN TIME WHERE ORDER",
		"begin", "commit", "rollback", "prune N",
	},
	"COLUMN":     {"NAME int", "NAME text"},
	"COLUMNS":    {"", ", COLUMN COLUMNS"},
	"REFERENCES": {"", "references NAME by NAME"},
	"LITERALS":   {"", ", LITERAL LITERALS"},
	"SET":        {"NAME = LITERAL"},
	"SETS":       {"", ", SET SETS"},
	"NAMES":      {"", ", NAME NAMES"},
	"SPAN":       {"", "from N to N"},
	"JOIN":       {"", "join NAME on NAME = NAME"},
	"TIME":       {"", "as of N", "from N to N", "between N and N"},
	"WHERE":      {"", "where CONDITION"},
	"ORDER":      {"", "order NAME"},
	"CONDITION":  {"NAME OP LITERAL", "not CONDITION", "( CONDITION and CONDITION )", "( CONDITION or CONDITION )"},
	"OP":         {"=", "<>", "<", "<=", ">", ">="},
}

const keyWords = " create table int text references insert into values from to update set where delete select in join on as of between and order begin commit rollback prune or not "

// alphabet has each key word, each sign, and of all else what is asked for, and what just is not.
func alphabet() []string {
	return append(strings.Fields(keyWords), "a", "by", "abcdefgh", "abcdefghi", "0", "-5", "1099511627776", "1099511627777", "'x'", "'where'", "<=", ">=", "<>", "(", ")", ",", "=", "<", ">", "*")
}

func isName(token string) bool {
	return token[0] >= 'a' && token[0] <= 'z' && len(token) <= 8 && !strings.Contains(keyWords, " "+token+" ")
}

func isNumber(token string) bool {
	n, err := strconv.ParseInt(token, 10, 64)
	return err == nil && -1<<40 <= n && n <= 1<<40
}

func fits(symbol, token string) bool {
	switch symbol {
	case "NAME":
		return isName(token)
	case "N":
		return isNumber(token)
	case "LITERAL":
		return isNumber(token) || token[0] == '\''
	}
	return symbol == token
}

// opened yields each way to begin a form with a token that is asked for, and what is left behind that; twice nothing, if the form may end.
func opened(form string, yield func(first, rest string)) {
	first, rest, _ := strings.Cut(form, " ")
	ways, ok := grammar[first]
	if !ok {
		yield(first, rest)
		return
	}
	for _, way := range ways {
		opened(strings.TrimSpace(way+" "+rest), yield)
	}
}

// behind are the forms that may be left behind a token.
func behind(forms []string, token string) []string {
	var left []string
	for _, form := range forms {
		opened(form, func(first, rest string) {
			if first != "" && fits(first, token) && !slices.Contains(left, rest) {
				left = append(left, rest)
			}
		})
	}
	slices.Sort(left)
	return left
}

func mayEnd(forms []string) bool {
	found := false
	for _, form := range forms {
		opened(form, func(first, rest string) { found = found || first == "" })
	}
	return found
}

// verdict is the error of tokens that stand at places in a text of some size.
func verdict(form string, tokens []string, places []int, size int) (int, api.Errno) {
	forms := []string{form}
	for i, token := range tokens {
		if forms = behind(forms, token); len(forms) == 0 {
			return places[i], api.ErrSyntax
		}
	}
	if !mayEnd(forms) {
		return size, api.ErrSyntax
	}
	if tokens[0] != "create" {
		return 0, api.OK
	}
	var names []string
	var at []int
	for i, token := range tokens {
		if token == "int" || token == "text" {
			names, at = append(names, tokens[i-1]), append(at, places[i-1])
		}
	}
	last := len(tokens) - 1
	if tokens[last] != ")" && !slices.Contains(names[1:], tokens[last]) {
		return places[last], api.ErrSyntax
	}
	if len(names) > 4 {
		return at[4], api.ErrSyntax
	}
	return 0, api.OK
}

// agree holds what the package answers against the model.
func agree(t *testing.T, form string, tokens []string) {
	t.Helper()
	var text strings.Builder
	var places []int
	for i, token := range tokens {
		text.WriteString(strings.Repeat(" ", 1+i%2))
		places = append(places, text.Len())
		text.WriteString(token)
	}
	text.WriteString("\n")
	at, e := verdict(form, tokens, places, text.Len())
	var s api.Stmt
	var gotAt int
	var gotE api.Errno
	if form == "STMT" {
		s, gotAt, gotE = parse.Stmt(text.String())
	} else {
		s = api.Stmt{Kind: api.Delete, Name: "t"}
		s.Where, gotAt, gotE = parse.Where(text.String())
	}
	if gotAt != at || gotE != e {
		t.Fatalf("%s of %q: %d, %d, not %d, %d", form, text.String(), gotAt, gotE, at, e)
	}
	if e == api.OK && !show.Sound(s) {
		t.Fatalf("P11.2: %q is parsed, but not sound: %+v", text.String(), s)
	}
}

// Each state that a text may be in is reached, and each token tried behind it. (Forms that are longer only stand deeper in conditions.)
func TestP11_1EachTokenInEachState(t *testing.T) {
	tokens := alphabet()
	for _, form := range []string{"STMT", "CONDITION"} {
		type state struct {
			forms  []string
			tokens []string
		}
		seen := map[string]bool{}
		work := []state{{[]string{form}, nil}}
		for len(work) > 0 {
			s := work[0]
			work = work[1:]
			for _, token := range tokens {
				then := append(slices.Clip(s.tokens), token)
				agree(t, form, then)
				forms := behind(s.forms, token)
				key := strings.Join(forms, "|")
				if len(forms) > 0 && len(then) < 18 && len(key) < 200 && !seen[key] {
					seen[key] = true
					work = append(work, state{forms, then})
				}
			}
		}
		if len(seen) < 60 {
			t.Errorf("of %s only %d states are reached", form, len(seen))
		}
	}
}

// Each form is cut behind each token, and has each token taken out, told twice, and another one in its place.
func TestP11_1CutAndChanged(t *testing.T) {
	all := alphabet()
	for i, f := range forms() {
		tokens := split(f.text)
		for n := range len(tokens) {
			agree(t, "STMT", tokens[:n])
			agree(t, "STMT", slices.Concat(tokens[:n], tokens[n+1:]))
			agree(t, "STMT", slices.Concat(tokens[:n+1], tokens[n:]))
			if i%7 != 0 {
				continue
			}
			for _, token := range all {
				agree(t, "STMT", slices.Concat(tokens[:n], []string{token}, tokens[n+1:]))
				agree(t, "STMT", slices.Concat(tokens[:n], []string{token}, tokens[n:]))
			}
		}
	}
	for _, c := range condForms() {
		tokens := split(c.text)
		for n := range len(tokens) {
			agree(t, "CONDITION", tokens[:n])
			for _, token := range all {
				agree(t, "CONDITION", slices.Concat(tokens[:n], []string{token}, tokens[n+1:]))
				agree(t, "CONDITION", slices.Concat(tokens[:n], []string{token}, tokens[n:]))
			}
		}
	}
}

// A twig is a condition as a tree: a comparison, if it has no kids.
type twig struct {
	kind        api.CondKind
	left, right *twig
}

func leaf() *twig          { return &twig{kind: api.Cmp} }
func not(x *twig) *twig    { return &twig{kind: api.Not, left: x} }
func and(l, r *twig) *twig { return &twig{kind: api.And, left: l, right: r} }
func or(l, r *twig) *twig  { return &twig{kind: api.Or, left: l, right: r} }

// A drawing is a twig's text, its parts, and where the first one stands that is too deep (-1: there is none).
type drawing struct {
	text  string
	parts []api.Cond
	deep  int
}

func draw(x *twig) drawing {
	d := drawing{deep: -1}
	d.add(x, 1)
	return d
}

func (d *drawing) add(x *twig, level int) int {
	if level > 6 && d.deep < 0 {
		d.deep = len(d.text)
	}
	switch x.kind {
	case api.Cmp:
		// No two comparisons are alike, so that none can stand for another one.
		n := len(d.parts)
		d.text += "c" + strconv.Itoa(n) + " = " + strconv.Itoa(n)
		d.parts = append(d.parts, compare("c"+strconv.Itoa(n), api.Eq, num(int64(n))))
	case api.Not:
		d.text += "not "
		d.parts = append(d.parts, joint(api.Not, d.add(x.left, level+1)))
	default:
		d.text += "("
		left := d.add(x.left, level+1)
		d.text += map[api.CondKind]string{api.And: " and ", api.Or: " or "}[x.kind]
		right := d.add(x.right, level+1)
		d.text += ")"
		d.parts = append(d.parts, joint(x.kind, left, right))
	}
	return len(d.parts) - 1
}

func wantDrawing(t *testing.T, x *twig) {
	t.Helper()
	d := draw(x)
	const ahead = "select * in t where "
	if d.deep >= 0 {
		wantWhereError(t, d.text, d.deep, api.ErrDeep)
		wantStmtError(t, ahead+d.text+" order a", len(ahead)+d.deep, api.ErrDeep)
		return
	}
	wantWhere(t, d.text, d.parts)
	wantStmt(t, ahead+d.text+" order a", api.Stmt{Kind: api.Select, Name: "t", Where: d.parts, Order: "a"})
}

// All ways to stand in one another, up to one deeper than may be.
func TestP11_1HowDeep(t *testing.T) {
	level := []*twig{leaf()}
	for deep := 1; deep <= 7; deep++ {
		for _, x := range level {
			if d := draw(x); (d.deep >= 0) != (deep > api.MaxDepth) {
				t.Fatalf("%q is drawn %d deep, at %d", d.text, deep, d.deep)
			}
			wantDrawing(t, x)
			if t.Failed() {
				return
			}
		}
		var next []*twig
		for _, x := range level {
			next = append(next, not(x), and(x, leaf()), and(leaf(), x), or(x, leaf()), or(leaf(), x))
		}
		level = next
	}
}

// All conditions of up to five comparisons and nots.
func TestP11_1OrderOfParts(t *testing.T) {
	sizes := [][]*twig{nil, {leaf()}}
	for size := 2; size <= 5; size++ {
		var all []*twig
		for _, x := range sizes[size-1] {
			all = append(all, not(x))
		}
		for left := 1; left < size; left++ {
			for _, l := range sizes[left] {
				for _, r := range sizes[size-left] {
					all = append(all, and(l, r), or(l, r))
				}
			}
		}
		sizes = append(sizes, all)
	}
	for _, all := range sizes {
		for _, x := range all {
			wantDrawing(t, x)
			if t.Failed() {
				return
			}
		}
	}
}

func TestP11_1DeepPlaces(t *testing.T) {
	wantWhere(t, "not not not not not a = 1", []api.Cond{compare("a", api.Eq, num(1)), joint(api.Not, 0), joint(api.Not, 1), joint(api.Not, 2), joint(api.Not, 3), joint(api.Not, 4)})
	wantWhereError(t, "not not not not not not a = 1", 24, api.ErrDeep)
	wantWhereError(t, "not not not not not not not a = 1", 24, api.ErrDeep)
	wantWhereError(t, "not not not not not not (a = 1 and b = 2)", 24, api.ErrDeep)
	wantWhereError(t, " not not not not not ( a = 1 and b = 2)", 23, api.ErrDeep)
	wantWhereError(t, "(a = 1 and not not not not not b = 2)", 31, api.ErrDeep)
	wantWhereError(t, "(not not not not not a = 1 and not not not not not b = 2)", 21, api.ErrDeep)
	// What does not go on is told first, wherever it stands.
	wantWhereError(t, "not not not not not not", 23, api.ErrSyntax)
	wantWhereError(t, "not not not not not not ,", 24, api.ErrSyntax)
	wantWhereError(t, "not not not not not not a =", 27, api.ErrSyntax)
	wantWhereError(t, "not not not not not not a = 1 b", 30, api.ErrSyntax)
	wantStmtError(t, "delete t where not not not not not not a = 1 order b", 45, api.ErrSyntax)
	wantStmtError(t, "delete t where not not not not not not a = 1", 39, api.ErrDeep)
	// As deep as there are tokens.
	wantWhereError(t, strings.Repeat("not ", api.MaxTokens-3)+"a=1", 24, api.ErrDeep)
	wantWhereError(t, strings.Repeat("not ", api.MaxTokens), 400, api.ErrSyntax)
	wantWhereError(t, strings.Repeat("(", api.MaxTokens), api.MaxTokens, api.ErrSyntax)
}
