package tree

import (
	"fmt"
	"strings"
	"testing"

	"regesta/api"
)

// leafFrom is a leaf of so many keys, from a number on.
func leafFrom(from, n int) leaf {
	var l leaf
	for i := range n {
		l = append(l, api.Pair{Key: fmt.Sprintf("%03d", from+i)})
	}
	return l
}

func twoLevels(from int) inner {
	return innerOf([]part{leafFrom(from, 4), leafFrom(from+10, 8), leafFrom(from+20, 5), leafFrom(from+30, 4)})
}

func TestSoundTellsWhatIsRight(t *testing.T) {
	for i, root := range []part{
		leaf(nil),
		leafFrom(0, 1),
		leafFrom(0, fullest),
		innerOf([]part{leafFrom(0, 4), leafFrom(10, 8)}),
		twoLevels(0),
		innerOf([]part{twoLevels(0), twoLevels(100)}),
	} {
		if !(&Tree{root: root}).Sound() {
			t.Error("case", i)
		}
	}
}

// A Sound that always says true would let the other tests tell nothing.
func TestSoundTellsWhatIsWrong(t *testing.T) {
	unordered := leafFrom(0, 5)
	unordered[1], unordered[2] = unordered[2], unordered[1]
	twice := leafFrom(0, 5)
	twice[1] = twice[2]
	long := leafFrom(0, 5)
	long[4].Key = strings.Repeat("1", api.MaxKey+1)
	wrongLeast, wrongTotal := twoLevels(0), twoLevels(100)
	wrongLeast.least = "0"
	wrongTotal.total++
	wrongBelow := innerOf([]part{twoLevels(0), wrongTotal})
	wrongBelow.total--
	empty := leafFrom(20, 4)
	empty[0].Key = ""
	var many []part
	for i := range fullest + 1 {
		many = append(many, leafFrom(10*i, 4))
	}
	for what, root := range map[string]part{
		"no root":                 nil,
		"keys out of order":       unordered,
		"a key twice":             twice,
		"a key too long":          long,
		"a root too full":         leafFrom(0, fullest+1),
		"an only kid":             innerOf([]part{leafFrom(0, 5)}),
		"no kid":                  inner{},
		"too many kids":           innerOf(many),
		"a leaf too full":         innerOf([]part{leafFrom(0, fullest+1), leafFrom(10, 4)}),
		"a leaf too empty":        innerOf([]part{leafFrom(0, 4), leafFrom(10, fewest-1)}),
		"leaves out of order":     innerOf([]part{leafFrom(10, 4), leafFrom(0, 4)}),
		"leaves alike":            innerOf([]part{leafFrom(0, 4), leafFrom(0, 4)}),
		"a key in two leaves":     innerOf([]part{leafFrom(0, 4), leafFrom(3, 4)}),
		"leaves of two heights":   innerOf([]part{twoLevels(0), leafFrom(100, 4)}),
		"a kid too empty":         innerOf([]part{twoLevels(0), innerOf([]part{leafFrom(100, 4), leafFrom(110, 4)})}),
		"a wrong least key":       wrongLeast,
		"a wrong total":           wrongTotal,
		"a wrong least key below": innerOf([]part{wrongLeast, twoLevels(100)}),
		"a wrong total below, and a right one above": wrongBelow,
		"an empty key in the last leaf":              innerOf([]part{leafFrom(10, 4), empty}),
		"a wrong total below":                        innerOf([]part{twoLevels(0), wrongTotal}),
	} {
		if (&Tree{root: root}).Sound() {
			t.Errorf("with %s it is sound", what)
		}
	}
}

func TestHeightCountsLevels(t *testing.T) {
	three := innerOf([]part{twoLevels(0), twoLevels(100)})
	for want, root := range []part{leaf(nil), leafFrom(0, 1), twoLevels(0), three, innerOf([]part{three, three})} {
		if got := (&Tree{root: root}).Height(); got != want {
			t.Errorf("of %d levels Height is %d", want, got)
		}
	}
}
