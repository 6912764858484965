package tests

import (
	"math"
	"slices"
	"testing"

	"loop.example/ballast/impl"
)

func TestPathLies(t *testing.T) {
	for _, c := range []struct{ what, steps, want string }{
		{"no steps", "", ""},
		{"one step", "1+", ""},
		{"one step to a buffer", "0-", ""},
		{"a plain joint", "0+ 1+", ""},
		{"a plain joint back", "1- 0-", ""},
		{"a crossing, first to second", "2+ 4+", ""},
		{"a crossing, second to first", "4- 2-", ""},
		{"a crossing, third to fourth", "3+ 5+", ""},
		{"a crossing, fourth to third", "5- 3-", ""},
		{"from the tip to the left", "1+ 2+", "2:1"},
		{"from the tip to the right", "1+ 3+", "2:2"},
		{"from the left end", "2- 1-", "2:1"},
		{"from the right end", "3- 1-", "2:2"},
		{"another switch from the left end", "4+ 6+", "4:1"},
		{"another switch from the right end", "5+ 6+", "4:2"},
		{"another switch from the tip to the left", "6- 4-", "4:1"},
		{"another switch from the tip to the right", "6- 5-", "4:2"},
		{"all of it by the left", "0+ 1+ 2+ 4+ 6+", "2:1 4:1"},
		{"all of it by the right", "0+ 1+ 3+ 5+ 6+", "2:2 4:2"},
		{"all of it back by the left: in the order in which they are met", "6- 4- 2- 1- 0-", "4:1 2:1"},
		{"all of it back by the right", "6- 5- 3- 1- 0-", "4:2 2:2"},
	} {
		t.Run(c.what, func(t *testing.T) { holdLies(t, yard(), c.steps, c.want) })
	}
}

func TestPathLiesOfSwitchesMetTwice(t *testing.T) {
	holdLies(t, roundabout(), "0+ 1+", "1:1")
	holdLies(t, roundabout(), "1+ 2+ 1+", "1:2")
	holdLies(t, roundabout(), "1+ 2+ 1+ 2+ 1+", "1:2")
	holdLies(t, roundabout(), "1- 2- 1- 2- 1-", "1:2")
	holdLies(t, roundabout(), "0+ 1+ 2+", "1:1")
	holdLies(t, roundabout(), "0+ 1+ 2+ 1+", "")
	holdLies(t, roundabout(), "1- 2- 1- 0-", "")
	holdLies(t, turning(), "0+ 1+", "1:1")
	holdLies(t, turning(), "0+ 1-", "1:2")
	holdLies(t, turning(), "1+ 0-", "1:2")
	holdLies(t, turning(), "1- 0-", "1:1")
	holdLies(t, turning(), "0+ 1+ 0-", "")
	holdLies(t, turning(), "0+ 1- 0-", "")
	// Another switch ahead of the one that would have to lie in two ways: nothing is told of it either.
	n := laid([]impl.Piece{piece("a", 1), piece("b", 1), piece("c", 1), piece("d", 1)},
		fork("v", end(1, 0), end(0, 1), end(2, 0)), buffer(end(0, 0)), buffer(end(2, 1)), fork("w", end(1, 1), end(3, 0), end(3, 1)))
	holdLies(t, n, "0+ 1+ 3+", "0:1 3:1")
	holdLies(t, n, "0+ 1+ 3+ 1-", "")
	holdLies(t, n, "2- 1+ 3-", "0:2 3:2")
}

func TestPathLiesOfStepsThatDoNotFollow(t *testing.T) {
	for _, steps := range []string{
		"1+ 4+",          // not at the joint
		"1+ 2-",          // at the joint, but the wrong way
		"1+ 1+", "1+ 1-", // the same piece
		"2- 3+", "3- 2+", // from the left to the right end, and back
		"2+ 5+", "3+ 4+", "2+ 3-", // to the other track of a crossing
		"0- 0+", "0- 1+", "6+ 6-", // from a buffer
		"4+ 5-",    // from the left to the right end of another switch
		"1- 2+",    // from the other end
		"1+ 2+ 6+", // the first follow, the last do not
		"2+ 2+ 4+", // the last follow, the first do not
		"1+ 2+ 4+ 6+ 6+",
	} {
		holdLies(t, yard(), steps, "")
	}
}

func TestPathLiesOfStepsThatAreNone(t *testing.T) {
	for _, wrong := range []impl.Step{
		{Piece: -1, Way: 1}, {Piece: 7, Way: 1}, {Piece: 100, Way: -1}, {Piece: math.MinInt, Way: 1}, {Piece: math.MaxInt, Way: -1},
		{Piece: 3, Way: 0}, {Piece: 3, Way: 2}, {Piece: 3, Way: -2}, {Piece: 3, Way: math.MinInt}, {Piece: 3, Way: math.MaxInt}, {},
	} {
		right := legs("1+ 2+ 4+ 6+")
		lists := [][]impl.Step{{wrong}, {wrong, wrong}}
		for i := range len(right) + 1 {
			lists = append(lists, slices.Insert(slices.Clone(right), i, wrong))
			if i < len(right) {
				lists = append(lists, slices.Replace(slices.Clone(right), i, i+1, wrong))
			}
		}
		for _, steps := range lists {
			if got := impl.PathLies(yard(), steps); len(got) != 0 {
				t.Errorf("%v: %v", steps, got)
			}
		}
	}
}

// A piece that is none stands in no joint, and so not in the first one either.
func TestPathLiesOfAPieceThatIsNoneAtTheFirstJoint(t *testing.T) {
	n := turning()
	n.Joints[0], n.Joints[1] = n.Joints[1], n.Joints[0]
	holdLies(t, n, "0+ 1+", "0:1")
	for _, piece := range []int{-1, 2, 100, math.MinInt, math.MaxInt} {
		for _, way := range []int{1, -1} {
			steps := append([]impl.Step{{Piece: piece, Way: way}}, legs("1+")...)
			if got := impl.PathLies(n, steps); len(got) != 0 {
				t.Errorf("%v: %v", steps, got)
			}
		}
	}
}

func TestPathLiesOfAsManyStepsAsMayBe(t *testing.T) {
	round := slices.Repeat(legs("1+ 2+"), 201)
	for _, c := range []struct {
		many int
		want []impl.Lie
	}{{2, nil}, {3, lays("1:2")}, {399, lays("1:2")}, {400, lays("1:2")}, {401, nil}, {402, nil}} {
		if got := impl.PathLies(roundabout(), round[:c.many]); !slices.Equal(got, c.want) {
			t.Errorf("%d steps: %v, not %v", c.many, got, c.want)
		}
	}
}

func TestPathLiesOfNetsThatAreNotRight(t *testing.T) {
	for _, n := range brokenNets() {
		for _, steps := range []string{"", "1+", "1+ 2+", "0+ 1+ 2+ 4+ 6+"} {
			holdLies(t, n, steps, "")
		}
	}
}

// Every two, three and four steps of small nets, whether they follow one another or not.
func TestPathLiesOfAllSmallPaths(t *testing.T) {
	for _, n := range append(knots(), roundabout(), turning()) {
		all := []impl.Step{}
		for p := range n.Pieces {
			all = append(all, impl.Step{Piece: p, Way: 1}, impl.Step{Piece: p, Way: -1})
		}
		lists := [][]impl.Step{nil}
		for many := 0; many < 4; many++ {
			longer := [][]impl.Step{}
			for _, list := range lists {
				for _, s := range all {
					longer = append(longer, append(slices.Clone(list), s))
				}
			}
			lists = longer
			for _, steps := range lists {
				want := []impl.Lie{}
				if follow(n, steps) {
					want, _ = wanted(n, steps)
				}
				if got := impl.PathLies(n, steps); !slices.Equal(got, want) {
					t.Fatalf("%q, %v: %v, not %v", tell(n), steps, got, want)
				}
			}
		}
	}
}

func follow(n impl.Net, steps []impl.Step) bool {
	for i := 1; i < len(steps); i++ {
		if !slices.Contains(onward(n, steps[i-1]), steps[i]) {
			return false
		}
	}
	return true
}
