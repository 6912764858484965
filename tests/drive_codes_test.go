package tests

import (
	"math"
	"slices"
	"testing"

	"loop.example/ballast/impl"
)

func TestDriveEndsAtABuffer(t *testing.T) {
	holdRides(t, yard(), []ride{
		{"one too far", leftLies, spot(0, 40, -1), 41, ended(1, 40, 0, spot(0, 0, -1))},
		{"much too far", leftLies, spot(0, 40, -1), 1000000, ended(1, 40, 0, spot(0, 0, -1))},
		{"from the buffer", leftLies, spot(0, 0, -1), 1, ended(1, 0, 0, spot(0, 0, -1))},
		{"from the other buffer", leftLies, spot(6, 70, 1), 1, ended(1, 0, 5, spot(6, 70, 1))},
		{"behind many joints", leftLies, spot(0, 0, 1), 271, ended(1, 270, 5, spot(6, 70, 1))},
		{"behind many joints by the right", rightLies, spot(6, 69, -1), 300, ended(1, 289, 0, spot(0, 0, -1))},
	})
}

func TestDriveEndsAtASwitchWith0(t *testing.T) {
	none := make([]int, 6)
	holdRides(t, yard(), []ride{
		{"from the tip", none, spot(0, 0, 1), 121, ended(2, 120, 2, spot(1, 20, 1))},
		{"from the left end", none, spot(2, 7, -1), 8, ended(2, 7, 2, spot(2, 0, -1))},
		{"from the right end", none, spot(3, 7, -1), 8, ended(2, 7, 2, spot(3, 0, -1))},
		{"from the tip, standing there", none, spot(1, 20, 1), 1, ended(2, 0, 2, spot(1, 20, 1))},
		{"from the left end, standing there", none, spot(2, 0, -1), 1, ended(2, 0, 2, spot(2, 0, -1))},
		{"from the right end, standing there", none, spot(3, 0, -1), 1, ended(2, 0, 2, spot(3, 0, -1))},
		{"behind one that lies left", []int{0, 0, 1, 0, 0, 0}, spot(0, 0, 1), 999, ended(2, 200, 4, spot(4, 50, 1))},
		{"behind one that lies right", []int{0, 0, 2, 0, 0, 0}, spot(0, 0, 1), 999, ended(2, 220, 4, spot(5, 60, 1))},
	})
}

func TestDriveEndsAtASwitchThatLiesOtherwise(t *testing.T) {
	holdRides(t, yard(), []ride{
		{"from the left end, lying right", rightLies, spot(2, 7, -1), 8, ended(3, 7, 2, spot(2, 0, -1))},
		{"from the right end, lying left", leftLies, spot(3, 7, -1), 8, ended(3, 7, 2, spot(3, 0, -1))},
		{"from the left end, standing there", rightLies, spot(2, 0, -1), 1, ended(3, 0, 2, spot(2, 0, -1))},
		{"from the right end, standing there", leftLies, spot(3, 0, -1), 1, ended(3, 0, 2, spot(3, 0, -1))},
		{"behind one that lies left", []int{0, 0, 1, 0, 2, 0}, spot(0, 0, 1), 999, ended(3, 200, 4, spot(4, 50, 1))},
		{"behind one that lies right", []int{0, 0, 2, 0, 1, 0}, spot(0, 0, 1), 999, ended(3, 220, 4, spot(5, 60, 1))},
		{"on the way back", []int{0, 0, 2, 0, 1, 0}, spot(6, 70, -1), 999, ended(3, 150, 2, spot(2, 0, -1))},
	})
}

// Whoever has gone over 1000 joints is on a ring: no buffer and no switch can end that drive, so 1, 2 and 3 can't meet 5.
func TestDriveOverTooManyJoints(t *testing.T) {
	holdRides(t, ring(1), []ride{
		{"just as many", []int{0}, spot(0, 0, 1), 1001, came(1001, spot(0, 1, 1))},
		{"one more", []int{0}, spot(0, 0, 1), 1002, ended(5, 1001, 0, spot(0, 1, 1))},
		{"many more", []int{0}, spot(0, 0, 1), impl.MaxFar, ended(5, 1001, 0, spot(0, 1, 1))},
		{"just as many, from the end", []int{0}, spot(0, 1, 1), 1000, came(1000, spot(0, 1, 1))},
		{"one more, from the end", []int{0}, spot(0, 1, 1), 1001, ended(5, 1000, 0, spot(0, 1, 1))},
		{"just as many the other way", []int{0}, spot(0, 1, -1), 1001, came(1001, spot(0, 0, -1))},
		{"one more the other way", []int{0}, spot(0, 1, -1), 1002, ended(5, 1001, 0, spot(0, 0, -1))},
	})
	three := []impl.Piece{piece("a", 1), piece("b", 2), piece("c", 3)}
	round := laid(three, crossing("x", end(0, 1), end(1, 0), end(2, 1), end(0, 0)), plain(end(2, 0), end(1, 1)))
	// From a by b (joint 0) and c (joint 1) back to a (joint 0): 1000 joints are 333 rounds and one joint.
	holdRides(t, round, []ride{
		{"three pieces", []int{0, 0}, spot(0, 0, 1), 333*6 + 3, came(333*6+3, spot(1, 2, 1))},
		{"three pieces and one more", []int{0, 0}, spot(0, 0, 1), 333*6 + 4, ended(5, 333*6+3, 1, spot(1, 2, 1))},
		{"three pieces, from the second", []int{0, 0}, spot(1, 0, 1), 333*6 + 5, came(333*6+5, spot(2, 3, 1))},
		{"three pieces, from the second, and one more", []int{0, 0}, spot(1, 0, 1), 333*6 + 6, ended(5, 333*6+5, 0, spot(2, 3, 1))},
	})
	two := []impl.Piece{piece("a", 2), piece("b", 9)}
	points := laid(two, fork("w", end(0, 0), end(1, 0), end(0, 1)), buffer(end(1, 1)))
	holdRides(t, points, []ride{
		{"a switch from its right end", []int{2, 0}, spot(0, 0, 1), 2002, came(2002, spot(0, 2, 1))},
		{"a switch from its right end and one more", []int{2, 0}, spot(0, 0, 1), 2003, ended(5, 2002, 0, spot(0, 2, 1))},
		{"a switch from its tip", []int{2, 0}, spot(0, 2, -1), 2002, came(2002, spot(0, 0, -1))},
		{"a switch from its tip and one more", []int{2, 0}, spot(0, 2, -1), 2003, ended(5, 2002, 0, spot(0, 0, -1))},
	})
}

// noLies are lists of numbers that the yard can't have.
func noLies() [][]int {
	all := [][]int{nil, {}, {0}, leftLies[:5], append(slices.Clone(leftLies), 0), make([]int, 5), make([]int, 7), make([]int, 120)}
	for j, joint := range yard().Joints {
		for _, lie := range []int{math.MinInt, -2, -1, 1, 2, 3, math.MaxInt} {
			if joint.Kind == impl.JSwitch && (lie == 1 || lie == 2) {
				continue
			}
			lies := slices.Clone(leftLies)
			lies[j] = lie
			all = append(all, lies)
		}
	}
	return all
}

// holdNone asks for Code 4 and nothing else, and for no parts.
func holdNone(t *testing.T, n impl.Net, lies []int, s impl.Spot, far int) {
	t.Helper()
	if got := impl.Drive(n, lies, s, far); got != (impl.Driven{Code: 4}) {
		t.Errorf("%v, %v over %d: %v", lies, s, far, got)
	}
	if got := impl.Ahead(n, lies, s, far); len(got) > 0 {
		t.Errorf("ahead of %v, %v over %d: %v", lies, s, far, got)
	}
	if got := impl.Behind(n, lies, s, far); len(got) > 0 {
		t.Errorf("behind %v, %v over %d: %v", lies, s, far, got)
	}
}

func TestNoDrive(t *testing.T) {
	// Near the middle of its piece, at a buffer, and at a joint.
	for _, s := range []impl.Spot{spot(0, 40, 1), spot(0, 0, -1), spot(1, 20, 1)} {
		for _, far := range []int{math.MinInt, -impl.MaxFar, -1, 1000001, math.MaxInt} {
			holdNone(t, yard(), leftLies, s, far)
		}
		for _, far := range []int{0, 1, 50, 500, impl.MaxFar} {
			for _, lies := range noLies() {
				holdNone(t, yard(), lies, s, far)
			}
			for _, c := range faults() {
				n := yard()
				c.spoil(&n)
				holdNone(t, n, leftLies, s, far)
				holdNone(t, n, make([]int, len(n.Joints)), s, far)
			}
		}
	}
	for _, s := range noSpots() {
		for _, far := range []int{-1, 0, 1, 500, impl.MaxFar} {
			holdNone(t, yard(), leftLies, s, far)
		}
	}
	holdNone(t, impl.Net{}, nil, impl.Spot{}, 0)
	holdNone(t, impl.Net{}, nil, spot(0, 0, 1), 0)
	holdNone(t, impl.Net{Pieces: yard().Pieces}, nil, spot(0, 0, 1), 1)
	holdNone(t, chains(101, 120), make([]int, 120), spot(0, 0, 1), 1)
	holdNone(t, chains(100, 121), make([]int, 121), spot(0, 0, 1), 1)
}

// A number that is none is refused though the drive never comes to that joint, and all right ones are taken.
func TestLiesOfJointsNearAndFar(t *testing.T) {
	for _, w := range []int{0, 1, 2} {
		for _, v := range []int{0, 1, 2} {
			if got := impl.Drive(yard(), []int{0, 0, w, 0, v, 0}, spot(0, 40, 1), 0); got != came(0, spot(0, 40, 1)) {
				t.Errorf("%d, %d: %v", w, v, got)
			}
		}
	}
	n := chains(100, 120)
	lies := make([]int, 120)
	if got := impl.Drive(n, lies, spot(0, 0, 1), 0); got != came(0, spot(0, 0, 1)) {
		t.Error(got)
	}
	for j := range lies {
		lies[j] = 1
		holdNone(t, n, lies, spot(0, 0, 1), 0)
		lies[j] = 0
	}
}

// A piece whose two ends meet at one joint, of each kind where that can be.
func TestDriveOverAPieceWhoseEndsMeet(t *testing.T) {
	holdRides(t, ring(9), []ride{
		{"round", []int{0}, spot(0, 4, 1), 9, came(9, spot(0, 4, 1))},
		{"round the other way", []int{0}, spot(0, 4, -1), 9, came(9, spot(0, 4, -1))},
		{"from the end", []int{0}, spot(0, 9, 1), 9, came(9, spot(0, 9, 1))},
		{"from just behind the joint", []int{0}, spot(0, 0, 1), 10, came(10, spot(0, 1, 1))},
		{"two rounds", []int{0}, spot(0, 4, 1), 18, came(18, spot(0, 4, 1))},
	})
	two := []impl.Piece{piece("a", 5), piece("b", 9)}
	balloon := laid(two, fork("w", end(0, 1), end(1, 0), end(1, 1)), buffer(end(0, 0)))
	holdRides(t, balloon, []ride{
		{"balloon, left", []int{1, 0}, spot(0, 0, 1), 20, ended(3, 14, 0, spot(1, 9, 1))},
		{"balloon, right", []int{2, 0}, spot(0, 0, 1), 20, ended(3, 14, 0, spot(1, 0, -1))},
		{"out of it by its left end", []int{1, 0}, spot(1, 3, -1), 4, came(4, spot(0, 4, -1))},
		{"out of it by its right end", []int{2, 0}, spot(1, 3, 1), 7, came(7, spot(0, 4, -1))},
		{"within it with 0", []int{0, 0}, spot(1, 3, 1), 7, ended(2, 6, 0, spot(1, 9, 1))},
	})
	wheel := laid(two, fork("w", end(1, 1), end(1, 0), end(0, 0)), buffer(end(0, 1)))
	holdRides(t, wheel, []ride{
		{"round from the tip", []int{1, 0}, spot(1, 8, 1), 20, came(20, spot(1, 1, 1))},
		{"round from the left end", []int{1, 0}, spot(1, 1, -1), 20, came(20, spot(1, 8, -1))},
		{"out of it", []int{2, 0}, spot(1, 8, 1), 3, came(3, spot(0, 2, 1))},
		{"out of it alone", []int{2, 0}, spot(1, 1, -1), 3, ended(3, 1, 0, spot(1, 0, -1))},
		{"into it", []int{2, 0}, spot(0, 2, -1), 3, came(3, spot(1, 8, -1))},
		{"not into it", []int{1, 0}, spot(0, 2, -1), 3, ended(3, 2, 0, spot(0, 0, -1))},
	})
	rings := laid(two, crossing("x", end(0, 0), end(0, 1), end(1, 1), end(1, 0)))
	holdRides(t, rings, []ride{
		{"a ring over a crossing", []int{0}, spot(0, 4, 1), 5, came(5, spot(0, 4, 1))},
		{"another ring over it", []int{0}, spot(1, 4, -1), 9, came(9, spot(1, 4, -1))},
	})
	eight := laid(two, crossing("x", end(0, 1), end(1, 0), end(1, 1), end(0, 0)))
	holdRides(t, eight, []ride{
		{"an eight", []int{0}, spot(0, 4, 1), 14, came(14, spot(0, 4, 1))},
		{"half of it", []int{0}, spot(0, 4, 1), 9, came(9, spot(1, 8, 1))},
		{"an eight the other way", []int{0}, spot(1, 4, -1), 14, came(14, spot(1, 4, -1))},
	})
}
