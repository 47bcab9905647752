package ivals

import (
	"math"
	"testing"

	"regesta/api"
)

func at(from, to, id int) stretch { return stretch{api.Span{From: from, To: to}, id} }

func alone(from, to, id int) *place { return placeOf(nil, at(from, to, id), nil) }

func TestSoundTellsWhatIsRight(t *testing.T) {
	for i, x := range []Ivals{
		{nil, 0},
		{alone(0, 1, 0), 1},
		{placeOf(alone(0, 9, 0), at(1, 2, 0), nil), 2},
		{placeOf(alone(0, 1, 0), at(0, 1, 1), placeOf(nil, at(0, 2, 0), alone(math.MaxInt-1, math.MaxInt, 0))), 4},
	} {
		if !x.Sound() {
			t.Error("case", i)
		}
	}
}

// A Sound that always says true would let the other tests tell nothing.
func TestSoundTellsWhatIsWrong(t *testing.T) {
	tall, short := alone(0, 1, 0), placeOf(alone(0, 1, 0), at(1, 2, 0), nil)
	tall.height++
	short.height--
	far, near := alone(0, 1, 0), placeOf(alone(0, 9, 0), at(1, 2, 0), nil)
	far.reach++
	near.reach = 2
	for what, x := range map[string]Ivals{
		"too great a count":            {alone(0, 1, 0), 2},
		"too small a count":            {alone(0, 1, 0), 0},
		"a count of none":              {nil, 1},
		"no point":                     {alone(1, 1, 0), 1},
		"ends the wrong way":           {alone(2, 1, 0), 1},
		"one twice":                    {placeOf(alone(0, 1, 0), at(0, 1, 0), nil), 2},
		"numbers out of order":         {placeOf(alone(0, 1, 1), at(0, 1, 0), nil), 2},
		"a To out of order":            {placeOf(nil, at(0, 2, 0), alone(0, 1, 1)), 2},
		"a From out of order":          {placeOf(nil, at(1, 2, 0), alone(0, 3, 1)), 2},
		"a grandchild out of order":    {placeOf(placeOf(nil, at(0, 1, 0), alone(5, 6, 0)), at(2, 3, 0), alone(4, 5, 0)), 4},
		"two levels more to the left":  {placeOf(placeOf(alone(0, 1, 0), at(1, 2, 0), nil), at(2, 3, 0), nil), 3},
		"two levels more to the right": {placeOf(nil, at(0, 1, 0), placeOf(nil, at(1, 2, 0), alone(2, 3, 0))), 3},
		"too great a height":           {tall, 1},
		"too small a height":           {short, 2},
		"too far a reach":              {far, 1},
		"too near a reach":             {near, 2},
		"too near a reach below":       {placeOf(near, at(2, 3, 0), alone(4, 5, 0)), 4},
		"too far a reach to the right": {placeOf(nil, at(-1, 0, 0), far), 2},
		"too great a height below":     {placeOf(nil, at(-1, 0, 0), tall), 2},
	} {
		if x.Sound() {
			t.Errorf("with %s it is sound", what)
		}
	}
}
