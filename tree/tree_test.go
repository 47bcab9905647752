package tree_test

import (
	"fmt"
	"maps"
	"math"
	"math/rand"
	"slices"
	"strings"
	"testing"

	"regesta/api"
	"regesta/tree"
)

// The calls are those of the chapter.
var (
	_ func() *tree.Tree                                = tree.New
	_ func(*tree.Tree, string, string) api.Errno       = (*tree.Tree).Put
	_ func(*tree.Tree, string) (string, bool)          = (*tree.Tree).Get
	_ func(*tree.Tree, string) bool                    = (*tree.Tree).Delete
	_ func(*tree.Tree, string, string, int) []api.Pair = (*tree.Tree).Range
	_ func(*tree.Tree, string) (api.Pair, bool)        = (*tree.Tree).Next
	_ func(*tree.Tree) int                             = (*tree.Tree).Len
	_ func(*tree.Tree) int                             = (*tree.Tree).Height
	_ func(*tree.Tree) bool                            = (*tree.Tree).Sound
	_ func(*tree.Tree) *tree.Tree                      = (*tree.Tree).Fork
	_ func(*tree.Tree, string) (api.Pair, bool)        = (*tree.Tree).Floor
	_ func(*tree.Tree, string, string) int             = (*tree.Tree).Count
)

const everything = math.MaxInt

// model is the chapter's words, as slowly as they are said.
type model map[string]string

// sorted goes by bytes, one by one, and not by Go's order of texts.
func (m model) sorted() []api.Pair {
	var out []api.Pair
	for k, v := range m {
		out = append(out, api.Pair{Key: k, Val: v})
	}
	slices.SortFunc(out, func(a, b api.Pair) int { return slices.Compare([]byte(a.Key), []byte(b.Key)) })
	return out
}

func behind(a, b string) bool { return slices.Compare([]byte(a), []byte(b)) > 0 }

func within(l []api.Pair, from, to string) []api.Pair {
	var out []api.Pair
	for _, p := range l {
		if !behind(from, p.Key) && (to == "" || behind(to, p.Key)) {
			out = append(out, p)
		}
	}
	return out
}

func nextOf(l []api.Pair, k string) (api.Pair, bool) {
	for _, p := range l {
		if behind(p.Key, k) {
			return p, true
		}
	}
	return api.Pair{}, false
}

func floorOf(l []api.Pair, k string) (api.Pair, bool) {
	for _, p := range slices.Backward(l) {
		if !behind(p.Key, k) {
			return p, true
		}
	}
	return api.Pair{}, false
}

func mostHigh(n int) int {
	if n == 0 {
		return 0
	}
	halvings := 0
	for ; n > 1; n /= 2 {
		halvings++
	}
	return halvings + 1
}

// stands asks what is asked of a tree as a whole.
func stands(t *testing.T, what string, x *tree.Tree, n int) {
	t.Helper()
	if x.Len() != n {
		t.Fatalf("%s: Len is %d, not %d", what, x.Len(), n)
	}
	if h := x.Height(); h > mostHigh(n) || h < min(n, 1) {
		t.Fatalf("%s: Height is %d with %d keys", what, h, n)
	}
	if !x.Sound() {
		t.Fatalf("%s: not sound", what)
	}
}

func same(t *testing.T, what string, x *tree.Tree, m model) {
	t.Helper()
	stands(t, what, x, len(m))
	if got, want := x.Range("", "", everything), m.sorted(); !slices.Equal(got, want) {
		t.Fatalf("%s: keys are %q, not %q", what, got, want)
	}
}

// agrees asks everything at each of some keys, and between any two of them.
func agrees(t *testing.T, what string, x *tree.Tree, m model, asked []string) {
	t.Helper()
	same(t, what, x, m)
	l := m.sorted()
	for _, k := range asked {
		v, ok := m[k]
		if got, was := x.Get(k); got != v || was != ok {
			t.Fatalf("%s: Get(%q) is %q, %v, not %q, %v", what, k, got, was, v, ok)
		}
		p, ok := nextOf(l, k)
		if got, was := x.Next(k); got != p || was != ok {
			t.Fatalf("%s: Next(%q) is %q, %v, not %q, %v", what, k, got, was, p, ok)
		}
		p, ok = floorOf(l, k)
		if got, was := x.Floor(k); got != p || was != ok {
			t.Fatalf("%s: Floor(%q) is %q, %v, not %q, %v", what, k, got, was, p, ok)
		}
		for _, to := range asked {
			agreesBetween(t, what, x, within(l, k, to), k, to)
		}
	}
}

func agreesBetween(t *testing.T, what string, x *tree.Tree, want []api.Pair, from, to string) {
	t.Helper()
	n := len(want)
	if got := x.Count(from, to); got != n {
		t.Fatalf("%s: Count(%q, %q) is %d, not %d", what, from, to, got, n)
	}
	for _, most := range []int{math.MinInt, -1, 0, 1, n - 1, n, n + 1, everything} {
		if got := x.Range(from, to, most); !slices.Equal(got, want[:min(n, max(most, 0))]) {
			t.Fatalf("%s: Range(%q, %q, %d) is %q of %q", what, from, to, most, got, want)
		}
	}
}

func put(t *testing.T, x *tree.Tree, m model, k, v string) {
	t.Helper()
	if errno := x.Put(k, v); errno != api.OK {
		t.Fatalf("Put(%q): %d", k, errno)
	}
	m[k] = v
}

func take(t *testing.T, x *tree.Tree, m model, k string) {
	t.Helper()
	_, was := m[k]
	if got := x.Delete(k); got != was {
		t.Fatalf("Delete(%q) is %v, not %v", k, got, was)
	}
	delete(m, k)
}

func filled(t *testing.T, keys []string) (*tree.Tree, model) {
	t.Helper()
	x, m := tree.New(), model{}
	for _, k := range keys {
		put(t, x, m, k, "of "+k)
	}
	return x, m
}

// numbered are so many keys, rising, with room for others ahead, between and behind.
func numbered(n int) []string {
	var out []string
	for i := range n {
		out = append(out, fmt.Sprintf("k%04d", i))
	}
	return out
}

// around are some keys, and others ahead of them, between and behind.
func around(keys []string) []string {
	out := []string{"", "\x00", "\xff", "\xff\xff"}
	for _, k := range keys {
		out = append(out, k, k+"\x00")
	}
	return out
}

func orders(n int) map[string][]int {
	rising := make([]int, n)
	for i := range rising {
		rising[i] = i
	}
	falling := slices.Clone(rising)
	slices.Reverse(falling)
	out := map[string][]int{"rising": rising, "falling": falling, "inward": nil, "outward": nil}
	for i := range n {
		if i%2 == 0 {
			out["inward"] = append(out["inward"], i/2)
		} else {
			out["inward"] = append(out["inward"], n-1-i/2)
		}
	}
	out["outward"] = slices.Clone(out["inward"])
	slices.Reverse(out["outward"])
	for seed := range 4 {
		out[fmt.Sprint("shuffled ", seed)] = rand.New(rand.NewSource(int64(seed))).Perm(n)
	}
	return out
}

func TestExample(t *testing.T) {
	x, _ := filled(t, []string{"b", "a", "c"})
	want := []api.Pair{{Key: "a", Val: "of a"}, {Key: "b", Val: "of b"}, {Key: "c", Val: "of c"}}
	if got := x.Range("", "", 9); !slices.Equal(got, want) {
		t.Errorf("%q", got)
	}
}

func TestNil(t *testing.T) {
	var x *tree.Tree
	for _, k := range []string{"", "a", strings.Repeat("a", api.MaxKey+1)} {
		if errno := x.Put(k, "v"); errno != api.ErrNil {
			t.Errorf("Put(%q): %d", k, errno)
		}
		if x.Delete(k) {
			t.Errorf("Delete(%q)", k)
		}
		if v, ok := x.Get(k); v != "" || ok {
			t.Errorf("Get(%q): %q, %v", k, v, ok)
		}
		if p, ok := x.Next(k); p != (api.Pair{}) || ok {
			t.Errorf("Next(%q): %q, %v", k, p, ok)
		}
		if p, ok := x.Floor(k); p != (api.Pair{}) || ok {
			t.Errorf("Floor(%q): %q, %v", k, p, ok)
		}
		if l, n := x.Range(k, "", 9), x.Count(k, ""); len(l) != 0 || n != 0 {
			t.Errorf("Range and Count(%q): %q, %d", k, l, n)
		}
		if l, n := x.Range("", k, 9), x.Count("", k); len(l) != 0 || n != 0 {
			t.Errorf("Range and Count up to %q: %q, %d", k, l, n)
		}
	}
	if x.Len() != 0 || x.Height() != 0 || x.Sound() || x.Fork() != nil {
		t.Error(x.Len(), x.Height(), x.Sound(), x.Fork())
	}
}

func TestNoKeyAndOneAlone(t *testing.T) {
	asked := []string{"", "\x00", "a", "b", "bb", "c", strings.Repeat("b", api.MaxKey+1)}
	x, m := tree.New(), model{}
	agrees(t, "none", x, m, asked)
	if x.Height() != 0 {
		t.Error("Height without keys:", x.Height())
	}
	for _, k := range asked {
		take(t, x, m, k)
	}
	for _, k := range []string{"", "b"} {
		put(t, x, m, k, "v")
		agrees(t, "one alone", x, m, asked)
		if x.Height() != 1 {
			t.Error("Height with one key:", x.Height())
		}
		take(t, x, m, "c")
		agrees(t, "one alone, of another one's Delete", x, m, asked)
		take(t, x, m, k)
		take(t, x, m, k)
		agrees(t, "the only one taken out", x, m, asked)
	}
}

// An empty key is one like others; what a key has may be empty, too.
func TestEmptyTexts(t *testing.T) {
	x, m := filled(t, []string{"b", ""})
	put(t, x, m, "a", "")
	agrees(t, "with an empty key", x, m, []string{"", "a", "b", "c"})
	if v, ok := x.Get("a"); v != "" || !ok {
		t.Errorf("Get of one that has nothing: %q, %v", v, ok)
	}
	put(t, x, m, "", "again")
	agrees(t, "an empty key put again", x, m, []string{"", "a", "b", "c"})
	take(t, x, m, "")
	agrees(t, "an empty key taken out", x, m, []string{"", "a", "b", "c"})
}

func TestLongKeys(t *testing.T) {
	long := strings.Repeat("m", api.MaxKey)
	asked := []string{"", "m", long, long + "m", long[1:] + "n", "n"}
	for _, n := range []int{0, 1, 8, 9, 100} {
		x, m := filled(t, numbered(n))
		for _, k := range []string{long + "m", long + "\x00", strings.Repeat("\x00", api.MaxKey+1), strings.Repeat("ä", api.MaxKey/2) + "a", strings.Repeat("x", 5000)} {
			if errno := x.Put(k, "v"); errno != api.ErrRange {
				t.Errorf("Put of %d bytes: %d", len(k), errno)
			}
			take(t, x, m, k)
		}
		agrees(t, "too long keys", x, m, asked)
		put(t, x, m, long, strings.Repeat("v", 5000))
		put(t, x, m, strings.Repeat("ä", api.MaxKey/2), "")
		put(t, x, m, strings.Repeat("\xff", api.MaxKey), "")
		agrees(t, "the longest keys", x, m, asked)
		if errno := x.Put(long+"m", "v"); errno != api.ErrRange {
			t.Error("too long, beside the longest:", errno)
		}
		take(t, x, m, long)
		agrees(t, "the longest one taken out", x, m, asked)
	}
}

func TestPutAgain(t *testing.T) {
	for _, n := range []int{1, 8, 9, 70} {
		x, m := filled(t, numbered(n))
		height := x.Height()
		for i, k := range numbered(n) {
			put(t, x, m, k, fmt.Sprint("anew ", i))
			same(t, "put again", x, m)
			put(t, x, m, k, m[k])
			same(t, "put again as it was", x, m)
		}
		if x.Height() != height {
			t.Errorf("of %d keys, put again, Height is %d, not %d", n, x.Height(), height)
		}
	}
}

// All bytes may stand in keys, and none of them is more than a number.
func TestKeysComeByBytes(t *testing.T) {
	var keys []string
	bytes := []string{"\x00", "\x01", " ", "A", "a", "b", "\x7f", "\x80", "\xc3", "\xe4", "ä", "世", "\xff"}
	for _, a := range bytes {
		keys = append(keys, a)
		for _, b := range bytes {
			keys = append(keys, a+b)
		}
	}
	for name, order := range orders(len(keys)) {
		x, m := tree.New(), model{}
		for _, i := range order {
			put(t, x, m, keys[i], keys[len(keys)-1-i])
		}
		same(t, name, x, m)
		for _, k := range keys {
			if v, ok := x.Get(k); v != m[k] || !ok {
				t.Fatalf("%s: Get(%q): %q, %v", name, k, v, ok)
			}
		}
	}
}

// With so few keys each run of Puts and Deletes can be tried.
func TestAllShortRuns(t *testing.T) {
	keys := []string{"", "a", "ab", "b"}
	asked := append([]string{"\x00", "aa", "ac", "c"}, keys...)
	var run func(x *tree.Tree, m model, steps string)
	run = func(x *tree.Tree, m model, steps string) {
		agrees(t, steps, x, m, asked)
		if strings.Count(steps, " ") == 4 {
			return
		}
		for _, k := range keys {
			y, n := x.Fork(), maps.Clone(m)
			put(t, y, n, k, steps)
			run(y, n, steps+" put:"+k)
			y, n = x.Fork(), maps.Clone(m)
			take(t, y, n, k)
			run(y, n, steps+" delete:"+k)
		}
		agrees(t, steps+", behind its forks", x, m, asked)
	}
	run(tree.New(), model{}, "new")
}

func TestAnyOrder(t *testing.T) {
	for _, n := range []int{2, 5, 9, 17, 33, 60, 150, 400} {
		keys := numbered(n)
		for in, puts := range orders(n) {
			whole, m := tree.New(), model{}
			for _, i := range puts {
				put(t, whole, m, keys[i], "of "+keys[i])
				stands(t, in, whole, len(m))
			}
			same(t, in, whole, m)
			for out, takes := range orders(n) {
				x, left := whole.Fork(), maps.Clone(m)
				for at, i := range takes {
					take(t, x, left, keys[i])
					stands(t, in+", "+out, x, len(left))
					if at%29 == 0 || len(left) < 12 {
						same(t, in+", "+out, x, left)
					}
				}
				if x.Height() != 0 {
					t.Fatalf("%s, %s: Height is %d without keys", in, out, x.Height())
				}
			}
			same(t, in+", behind its forks", whole, m)
		}
	}
}

func TestHeights(t *testing.T) {
	x, m := tree.New(), model{}
	keys := numbered(700)
	highest := 0
	for _, k := range keys {
		put(t, x, m, k, "")
		stands(t, "rising", x, len(m))
		highest = max(highest, x.Height())
	}
	if highest < 2 {
		t.Error("no tree had two levels:", highest)
	}
	for i, k := range keys {
		if i%7 != 3 {
			take(t, x, m, k)
			stands(t, "behind Deletes", x, len(m))
		}
	}
	same(t, "each seventh", x, m)
}

// Each question at each key, ahead of it and behind it, at each length up to where there are three levels.
func TestQuestionsAtEachLength(t *testing.T) {
	for n := range 40 {
		keys := numbered(n)
		x, m := filled(t, keys)
		agrees(t, fmt.Sprint(n, " keys"), x, m, around(keys))
	}
	keys := numbered(110)
	for name, order := range orders(len(keys)) {
		x, m := tree.New(), model{}
		for _, i := range order {
			put(t, x, m, keys[i], "of "+keys[i])
		}
		if x.Height() < 3 {
			t.Error(name, "has less than three levels")
		}
		agrees(t, name, x, m, around(keys[:30]))
		agrees(t, name, x, m, around(keys[80:]))
		for i, k := range keys {
			if i%3 != 0 {
				take(t, x, m, k)
			}
		}
		agrees(t, name+", two of three taken out", x, m, around(keys[20:60]))
	}
}

func TestEachOneTakenOut(t *testing.T) {
	for _, n := range []int{8, 9, 12, 13, 40, 73, 110} {
		keys := numbered(n)
		whole, m := filled(t, keys)
		for i := range keys {
			x, left := whole.Fork(), maps.Clone(m)
			take(t, x, left, keys[i])
			take(t, x, left, keys[i])
			take(t, x, left, keys[i]+"\x00")
			same(t, "one taken out", x, left)
			for j := i + 1; j < min(n, i+10); j++ {
				take(t, x, left, keys[j])
				same(t, "more taken out", x, left)
			}
		}
		same(t, "behind its forks", whole, m)
	}
}

func TestNextGoesThroughAll(t *testing.T) {
	for _, n := range []int{1, 8, 9, 50, 333} {
		keys := numbered(n)
		x, _ := filled(t, keys)
		var got []string
		for p, ok := x.Next(""); ok && len(got) <= n; p, ok = x.Next(p.Key) {
			if p.Val != "of "+p.Key {
				t.Errorf("%q has %q", p.Key, p.Val)
			}
			got = append(got, p.Key)
		}
		if !slices.Equal(got, keys) {
			t.Errorf("%q, not %q", got, keys)
		}
	}
}

func TestRangeEnds(t *testing.T) {
	x, _ := filled(t, numbered(20))
	for _, c := range []struct {
		from, to string
		most     int
		want     int
	}{
		{"", "", 20, 20}, {"", "", 21, 20}, {"", "", 19, 19}, {"", "", 1, 1}, {"", "", 0, 0}, {"", "", -1, 0}, {"", "", math.MinInt, 0},
		{"k0003", "k0003", 9, 0}, {"k0004", "k0003", 9, 0}, {"z", "a", 9, 0}, {"k0003", "k0003\x00", 9, 1}, {"k0003", "k0004", 9, 1},
		{"k0003\x00", "k0004", 9, 0}, {"k0019", "", 9, 1}, {"k0019\x00", "", 9, 0}, {"", "k0000", 9, 0}, {"", "k0000\x00", 9, 1},
		{"k0005", "k0010", 5, 5}, {"k0005", "k0010", 6, 5}, {"k0005", "k0010", 4, 4},
	} {
		got := x.Range(c.from, c.to, c.most)
		if len(got) != c.want {
			t.Errorf("Range(%q, %q, %d) is %q", c.from, c.to, c.most, got)
		}
	}
}

func TestForksGoTheirOwnWays(t *testing.T) {
	r := rand.New(rand.NewSource(7))
	keys := numbered(80)
	trees, models := []*tree.Tree{tree.New()}, []model{{}}
	for step := range 3000 {
		i := r.Intn(len(trees))
		x, m := trees[i], models[i]
		k := keys[r.Intn(len(keys))]
		switch {
		case step%40 == 0:
			y := x.Fork()
			if y == x {
				t.Fatal("a Fork is the tree itself")
			}
			trees, models = append(trees, y), append(models, maps.Clone(m))
		case r.Intn(3) > 0:
			put(t, x, m, k, fmt.Sprint(step))
		default:
			take(t, x, m, k)
		}
		if step%50 == 0 {
			for j := range trees {
				same(t, fmt.Sprint("step ", step, ", tree ", j), trees[j], models[j])
			}
		}
	}
}

// Trees have nothing in common but what they were forked with.
func TestTreesAreApart(t *testing.T) {
	x, m := filled(t, numbered(30))
	y, n := filled(t, []string{"a", "k0003"})
	put(t, y, n, "k0003", "other")
	take(t, x, m, "k0003")
	same(t, "one", x, m)
	same(t, "the other one", y, n)
}

func TestAnswersAreTheCallers(t *testing.T) {
	for _, n := range []int{3, 8, 40} {
		x, m := filled(t, numbered(n))
		whole := x.Range("", "", everything)
		part := x.Range("k0001", "", everything)
		kept := slices.Clone(part)
		for i := range whole {
			whole[i] = api.Pair{Key: "spoilt", Val: "spoilt"}
		}
		whole = append(whole[:1], part[0], part[0])
		if !slices.Equal(part, kept) {
			t.Errorf("an answer lies in another one: %q", part)
		}
		for _, most := range []int{1, 2, n - 1} {
			l := x.Range("", "", most)
			l = append(l, api.Pair{Key: "spoilt"}, api.Pair{Key: "spoilt"})
			clear(l)
		}
		same(t, "behind changes of its answers", x, m)
		fork := x.Fork()
		clear(fork.Range("", "", everything))
		same(t, "behind changes of a fork's answers", x, m)
		put(t, x, maps.Clone(m), "k0001", "anew")
		if !slices.Equal(part, kept) {
			t.Errorf("an answer changes with the tree: %q", part)
		}
	}
}

func TestLongRunsAgainstModel(t *testing.T) {
	for seed := range 12 {
		r := rand.New(rand.NewSource(int64(seed)))
		x, m := tree.New(), model{}
		var keys []string
		for range 40 + 60*(seed%3) {
			b := make([]byte, r.Intn(4))
			for i := range b {
				b[i] = "\x00ab\xff"[r.Intn(4)]
			}
			keys = append(keys, string(b))
		}
		for step := range 1500 {
			k := keys[r.Intn(len(keys))]
			// Now rather growing, now rather falling.
			if r.Intn(10) < 3+4*(step/200%2) {
				put(t, x, m, k, fmt.Sprint(step))
			} else {
				take(t, x, m, k)
			}
			same(t, fmt.Sprint("seed ", seed, ", step ", step), x, m)
			if step%300 == 0 {
				agrees(t, fmt.Sprint("seed ", seed, ", step ", step), x, m, keys[:20])
			}
		}
	}
}

func TestManyKeys(t *testing.T) {
	const n = 20000
	x := tree.New()
	order := rand.New(rand.NewSource(1)).Perm(n)
	for _, i := range order {
		if errno := x.Put(fmt.Sprintf("%06d", i), fmt.Sprint(i)); errno != api.OK {
			t.Fatal(errno)
		}
	}
	stands(t, "many", x, n)
	if got := x.Count("000100", "000200"); got != 100 {
		t.Error(got)
	}
	for _, i := range order[:n-3] {
		if !x.Delete(fmt.Sprintf("%06d", i)) {
			t.Fatal(i)
		}
	}
	stands(t, "few of many", x, 3)
}
