package tests

import (
	"slices"
	"testing"

	"loop.example/ballast/impl"
)

type journey struct {
	what string
	a, b impl.Spot
	want impl.Path
}

func holdJourneys(t *testing.T, n impl.Net, all []journey) {
	t.Helper()
	for _, c := range all {
		if got := impl.Shortest(n, c.a, c.b); !samePath(got, c.want) {
			t.Errorf("%s: %v, not %v", c.what, got, c.want)
		}
	}
}

func TestShortestOnOnePiece(t *testing.T) {
	holdJourneys(t, yard(), []journey{
		{"one ahead", spot(0, 40, 1), spot(0, 41, 1), path(1, "0+", "")},
		{"far ahead", spot(0, 40, 1), spot(0, 100, 1), path(60, "0+", "")},
		{"all of it", spot(0, 0, 1), spot(0, 100, 1), path(100, "0+", "")},
		{"the same place", spot(0, 40, 1), spot(0, 40, 1), path(0, "0+", "")},
		{"the same place at the end to which one looks", spot(0, 100, 1), spot(0, 100, 1), path(0, "0+", "")},
		{"the same place at the other end", spot(0, 0, 1), spot(0, 0, 1), path(0, "0+", "")},
		{"one behind", spot(0, 40, 1), spot(0, 39, 1), impl.Path{}},
		{"the same place, looking the other way", spot(0, 40, 1), spot(0, 40, -1), impl.Path{}},
		{"ahead, looking the other way", spot(0, 40, 1), spot(0, 41, -1), impl.Path{}},
		{"behind, looking the other way", spot(0, 40, 1), spot(0, 39, -1), impl.Path{}},
		{"ahead, the other way", spot(0, 40, -1), spot(0, 39, -1), path(1, "0-", "")},
		{"all of it, the other way", spot(0, 100, -1), spot(0, 0, -1), path(100, "0-", "")},
		{"the same place, the other way", spot(0, 40, -1), spot(0, 40, -1), path(0, "0-", "")},
		{"behind, the other way", spot(0, 40, -1), spot(0, 41, -1), impl.Path{}},
	})
}

func TestShortestBackToTheOwnPiece(t *testing.T) {
	holdJourneys(t, ring(9), []journey{
		{"ahead", spot(0, 4, 1), spot(0, 6, 1), path(2, "0+", "")},
		{"behind", spot(0, 6, 1), spot(0, 4, 1), path(7, "0+ 0+", "")},
		{"one behind", spot(0, 6, 1), spot(0, 5, 1), path(8, "0+ 0+", "")},
		{"behind, the other way", spot(0, 4, -1), spot(0, 6, -1), path(7, "0- 0-", "")},
		{"the same place", spot(0, 4, 1), spot(0, 4, 1), path(0, "0+", "")},
		{"just behind the joint", spot(0, 4, 1), spot(0, 0, 1), path(5, "0+ 0+", "")},
		{"just behind the joint, from just ahead of it", spot(0, 9, 1), spot(0, 0, 1), path(0, "0+ 0+", "")},
		{"just ahead of the joint, from just behind it", spot(0, 0, 1), spot(0, 9, 1), path(9, "0+", "")},
		{"looking the other way", spot(0, 4, 1), spot(0, 4, -1), impl.Path{}},
	})
	holdJourneys(t, turning(), []journey{
		{"looking the other way: the switch would have to lie in two ways", spot(0, 2, 1), spot(0, 2, -1), path(15, "0+ 1- 0-", "")},
		{"ahead, looking the other way", spot(0, 2, 1), spot(0, 4, -1), path(13, "0+ 1- 0-", "")},
		{"behind", spot(0, 2, 1), spot(0, 1, 1), impl.Path{}},
		{"to the loop by the left", spot(0, 2, 1), spot(1, 2, 1), path(5, "0+ 1+", "1:1")},
		{"to the loop by the right", spot(0, 2, 1), spot(1, 2, -1), path(10, "0+ 1-", "1:2")},
		{"from the loop, of the right end", spot(1, 2, 1), spot(0, 1, -1), path(11, "1+ 0-", "1:2")},
		{"no way back to the loop", spot(1, 2, 1), spot(1, 1, 1), impl.Path{}},
	})
	holdJourneys(t, roundabout(), []journey{
		{"into the ring", spot(0, 1, 1), spot(2, 1, 1), path(7, "0+ 1+ 2+", "1:1")},
		{"round the ring", spot(1, 2, 1), spot(1, 1, 1), path(4, "1+ 2+ 1+", "1:2")},
		{"round the ring, the other way", spot(1, 1, -1), spot(1, 2, -1), path(4, "1- 2- 1-", "1:2")},
		{"out of the ring", spot(2, 1, -1), spot(0, 1, -1), path(7, "2- 1- 0-", "1:1")},
		{"out of the ring by two ways of one switch", spot(1, 1, -1), spot(1, 3, -1), path(3, "1- 2- 1-", "1:2")},
	})
}

func TestShortestOverJoints(t *testing.T) {
	holdJourneys(t, yard(), []journey{
		{"a plain joint", spot(0, 40, 1), spot(1, 5, 1), path(65, "0+ 1+", "")},
		{"just ahead of a plain joint", spot(0, 40, 1), spot(0, 100, 1), path(60, "0+", "")},
		{"just behind a plain joint", spot(0, 40, 1), spot(1, 0, 1), path(60, "0+ 1+", "")},
		{"from just ahead of a joint to just behind it", spot(0, 100, 1), spot(1, 0, 1), path(0, "0+ 1+", "")},
		{"from just behind a joint to just ahead of it", spot(1, 0, 1), spot(0, 100, 1), impl.Path{}},
		{"just ahead of it the other way", spot(1, 7, -1), spot(1, 0, -1), path(7, "1-", "")},
		{"just behind it the other way", spot(1, 7, -1), spot(0, 100, -1), path(7, "1- 0-", "")},
		{"a switch to the left", spot(1, 10, 1), spot(2, 5, 1), path(15, "1+ 2+", "2:1")},
		{"a switch to the right", spot(1, 10, 1), spot(3, 5, 1), path(15, "1+ 3+", "2:2")},
		{"a switch from the left", spot(2, 5, -1), spot(1, 10, -1), path(15, "2- 1-", "2:1")},
		{"a switch from the right", spot(3, 5, -1), spot(1, 10, -1), path(15, "3- 1-", "2:2")},
		{"a crossing", spot(2, 10, 1), spot(4, 10, 1), path(30, "2+ 4+", "")},
		{"the other track of a crossing", spot(5, 10, -1), spot(3, 10, -1), path(40, "5- 3-", "")},
		{"no way over a crossing", spot(2, 10, 1), spot(5, 10, 1), impl.Path{}},
		{"all of it, by the shorter one", spot(0, 0, 1), spot(6, 70, 1), path(270, "0+ 1+ 2+ 4+ 6+", "2:1 4:1")},
		{"all of it back", spot(6, 70, -1), spot(0, 0, -1), path(270, "6- 4- 2- 1- 0-", "4:1 2:1")},
		{"by the right alone", spot(0, 0, 1), spot(5, 60, 1), path(220, "0+ 1+ 3+ 5+", "2:2")},
		{"over a switch from its left to its right end", spot(2, 5, -1), spot(3, 5, 1), impl.Path{}},
		{"behind a buffer", spot(6, 5, 1), spot(6, 5, -1), impl.Path{}},
		{"at a buffer", spot(6, 70, 1), spot(6, 70, -1), impl.Path{}},
		{"looking the other way there", spot(0, 40, 1), spot(1, 5, -1), impl.Path{}},
	})
	n := yard()
	n.Pieces[2].Len = 200
	holdJourneys(t, n, []journey{
		{"the other one is shorter now", spot(0, 0, 1), spot(6, 70, 1), path(290, "0+ 1+ 3+ 5+ 6+", "2:2 4:2")},
	})
}

// between is two ways from piece 0 to piece 1: left over some pieces, right over others, each of the given lengths.
func between(left, right []int) impl.Net {
	n := impl.Net{Pieces: []impl.Piece{piece("from", 1), piece("to", 1)}}
	lay := func(lengths []int) (impl.End, impl.End) {
		first := len(n.Pieces)
		for i, length := range lengths {
			n.Pieces = append(n.Pieces, piece("p"+string(rune('a'+first+i)), length))
			if i > 0 {
				n.Joints = append(n.Joints, plain(end(first+i-1, 1), end(first+i, 0)))
			}
		}
		return end(first, 0), end(len(n.Pieces)-1, 1)
	}
	leftIn, leftOut := lay(left)
	rightIn, rightOut := lay(right)
	n.Joints = append(n.Joints, buffer(end(0, 0)), buffer(end(1, 1)), fork("w", end(0, 1), leftIn, rightIn), fork("v", end(1, 0), leftOut, rightOut))
	return n
}

// swapped is the net with the names of two pieces exchanged in its list.
func swapped(n impl.Net, a, b int) impl.Net {
	n.Pieces[a], n.Pieces[b] = n.Pieces[b], n.Pieces[a]
	for _, j := range n.Joints {
		for i, e := range j.Ends {
			switch e.Piece {
			case a:
				j.Ends[i].Piece = b
			case b:
				j.Ends[i].Piece = a
			}
		}
	}
	return n
}

func TestShortestOfWaysThatAreAsShort(t *testing.T) {
	a, b := spot(0, 0, 1), spot(1, 1, 1)
	for _, c := range []struct {
		what string
		n    impl.Net
		want impl.Path
	}{
		{"fewer steps on the left", between([]int{5}, []int{3, 2}), path(7, "0+ 2+ 1+", "3:1 4:1")},
		{"fewer steps on the right", between([]int{3, 2}, []int{5}), path(7, "0+ 4+ 1+", "3:2 4:2")},
		{"more steps, but shorter", between([]int{1, 1, 1}, []int{4}), path(5, "0+ 2+ 3+ 4+ 1+", "4:1 5:1")},
		{"the less piece on the left", between([]int{5}, []int{5}), path(7, "0+ 2+ 1+", "2:1 3:1")},
		{"the less piece on the right", swapped(between([]int{5}, []int{5}), 2, 3), path(7, "0+ 2+ 1+", "2:2 3:2")},
		{"where they first part, not where they last differ", swapped(between([]int{2, 3}, []int{3, 2}), 3, 5), path(7, "0+ 2+ 5+ 1+", "4:1 5:1")},
		{"where they first part, on the right", swapped(between([]int{2, 3}, []int{3, 2}), 2, 4), path(7, "0+ 2+ 5+ 1+", "4:2 5:2")},
		{"longer on the left", between([]int{6}, []int{5}), path(7, "0+ 3+ 1+", "2:2 3:2")},
		{"longer on the right", between([]int{5}, []int{6}), path(7, "0+ 2+ 1+", "2:1 3:1")},
	} {
		holdJourneys(t, c.n, []journey{{c.what, a, b, c.want}})
	}
}

func TestShortestOfWaysThatPartByWayAlone(t *testing.T) {
	n := turning()
	holdJourneys(t, n, []journey{{"the less way on the right", spot(0, 5, 1), spot(0, 5, -1), path(9, "0+ 1- 0-", "")}})
	n.Joints[1].Ends[1], n.Joints[1].Ends[2] = n.Joints[1].Ends[2], n.Joints[1].Ends[1]
	holdJourneys(t, n, []journey{{"the less way on the left", spot(0, 5, 1), spot(0, 5, -1), path(9, "0+ 1- 0-", "")}})
	// By Piece ahead of Way: piece 1 with Way 1 and not piece 2 with Way -1.
	n = laid([]impl.Piece{piece("a", 1), piece("b", 4), piece("c", 4), piece("d", 1)},
		buffer(end(0, 0)), buffer(end(3, 1)), fork("w", end(0, 1), end(2, 1), end(1, 0)), fork("v", end(3, 0), end(2, 0), end(1, 1)))
	holdJourneys(t, n, []journey{{"by piece first", spot(0, 0, 1), spot(3, 1, 1), path(6, "0+ 1+ 3+", "2:2 3:2")}})
	holdJourneys(t, swapped(n, 1, 2), []journey{{"by piece first, the other one", spot(0, 0, 1), spot(3, 1, 1), path(6, "0+ 1- 3+", "2:1 3:1")}})
}

func TestShortestOfLongWays(t *testing.T) {
	n := impl.Net{}
	for p := range 100 {
		n.Pieces = append(n.Pieces, piece("p"+string(rune('a'+p/10))+string(rune('a'+p%10)), impl.MaxLen))
		n.Joints = append(n.Joints, plain(end(p, 1), end((p+1)%100, 0)))
	}
	got := impl.Shortest(n, spot(3, 6, 1), spot(3, 5, 1))
	if !got.Ok || got.Far != 999999999 || len(got.Steps) != 101 || len(got.Lies) != 0 {
		t.Error(got.Ok, got.Far, len(got.Steps), got.Lies)
	}
	if back := impl.Shortest(n, spot(3, 5, -1), spot(3, 6, -1)); back.Far != got.Far || len(back.Steps) != 101 {
		t.Error(back.Ok, back.Far, len(back.Steps))
	}
	if far := impl.Shortest(n, spot(0, 0, 1), spot(0, impl.MaxLen, 1)); !samePath(far, path(impl.MaxLen, "0+", "")) {
		t.Error(far)
	}
}

func TestShortestOfWhatIsNone(t *testing.T) {
	for _, s := range noSpots() {
		for _, c := range [][2]impl.Spot{{s, spot(0, 40, 1)}, {spot(0, 40, 1), s}, {s, s}} {
			if got := impl.Shortest(yard(), c[0], c[1]); !samePath(got, impl.Path{}) {
				t.Errorf("%v: %v", c, got)
			}
		}
	}
	for _, n := range brokenNets() {
		for _, b := range []impl.Spot{spot(0, 40, 1), spot(0, 41, 1), spot(1, 5, 1)} {
			if got := impl.Shortest(n, spot(0, 40, 1), b); !samePath(got, impl.Path{}) {
				t.Errorf("%q: %v", tell(n), got)
			}
		}
	}
}

func TestShortestOfAllWays(t *testing.T) {
	eachPair(func(n impl.Net, a, b impl.Spot, p impl.Path) {
		want := walkTo(n, a, b)
		want.Lies, _ = wanted(n, want.Steps)
		if !samePath(p, want) {
			t.Fatalf("%q, %v to %v: %v, not %v", tell(n), a, b, p, want)
		}
		if !slices.Equal(p.Lies, impl.PathLies(n, p.Steps)) {
			t.Fatalf("%q, %v to %v: %v, not PathLies", tell(n), a, b, p)
		}
	})
}

// In great nets going through all ways would not end.
func TestShortestInMazes(t *testing.T) {
	for _, n := range append(mazes(100, 2), append(mazes(30, 5), mazes(9, 20)...)...) {
		for p := 0; p < len(n.Pieces); p += 1 + len(n.Pieces)/8 {
			a := spot(p, 1, 1-2*(p%2))
			best := relax(n, a)
			for to := p % 3; to < len(n.Pieces); to += 3 {
				one := n.Pieces[to]
				for _, b := range []impl.Spot{spot(to, 0, 1), spot(to, one.Len, 1), spot(to, one.Len/2, -1)} {
					got := impl.Shortest(n, a, b)
					want := best[stepOf(b)]
					if along := (b.At - a.At) * a.Way; stepOf(a) == stepOf(b) && along >= 0 {
						want = impl.Path{Ok: true, Far: along, Steps: []impl.Step{stepOf(a)}}
					} else if want.Ok {
						want.Far += one.Len - rest(n, b)
						want.Lies, _ = wanted(n, want.Steps)
					}
					if !samePath(got, want) {
						t.Fatalf("%q, %v to %v: %v, not %v", tell(n), a, b, got, want)
					}
				}
			}
		}
	}
}

func TestThereAndBackAreAsLong(t *testing.T) {
	eachPair(func(n impl.Net, a, b impl.Spot, p impl.Path) {
		back := impl.Shortest(n, impl.Turn(n, b), impl.Turn(n, a))
		if back.Ok != p.Ok || back.Far != p.Far {
			t.Fatalf("%q, %v to %v: there %v, back %v", tell(n), a, b, p, back)
		}
	})
}

// liesOf is lies for a drive, of those that a path tells.
func liesOf(n impl.Net, p impl.Path) []int {
	lies := make([]int, len(n.Joints))
	for _, l := range p.Lies {
		lies[l.Joint] = l.Lie
	}
	return lies
}

func TestShortestTellsADrive(t *testing.T) {
	eachPair(func(n impl.Net, a, b impl.Spot, p impl.Path) {
		if _, can := wanted(n, p.Steps); !p.Ok || !can {
			return
		}
		lies := liesOf(n, p)
		// One farther, so that a spot just behind a joint is come to over it.
		got := impl.Drive(n, lies, a, p.Far+1)
		if rest(n, b) == 0 {
			got = impl.Drive(n, lies, a, p.Far)
			if got != came(p.Far, b) {
				t.Fatalf("%q, %v to %v by %v: %v", tell(n), a, b, p, got)
			}
			return
		}
		if got != came(p.Far+1, spot(b.Piece, b.At+b.Way, b.Way)) {
			t.Fatalf("%q, %v to %v by %v: %v", tell(n), a, b, p, got)
		}
	})
}

// Wherever a drive comes, with switches as they like, Shortest knows a way that is not longer.
func TestNoDriveComesSooner(t *testing.T) {
	for _, n := range append(knots(), smallYard(), turning(), roundabout()) {
		known := map[[2]impl.Spot]impl.Path{}
		for _, lies := range allLies(n) {
			for _, a := range someSpots(n) {
				for far := range 20 {
					d := impl.Drive(n, lies, a, far)
					pair := [2]impl.Spot{a, d.Spot}
					if _, there := known[pair]; !there {
						known[pair] = impl.Shortest(n, a, d.Spot)
					}
					if p := known[pair]; !p.Ok || p.Far > d.Far {
						t.Fatalf("%q, %v over %d comes to %v: %v", tell(n), a, far, d, p)
					}
				}
			}
		}
	}
}
