package tests

import (
	"math"
	"testing"

	"loop.example/ballast/impl"
)

// noSpots are spots that the yard does not have: the length of piece 0 is 100, that of piece 6 is 70.
func noSpots() []impl.Spot {
	all := []impl.Spot{
		{},
		spot(-1, 0, 1), spot(7, 0, 1), spot(7, 0, -1), spot(99, 0, 1), spot(100, 0, 1),
		spot(math.MinInt, 0, 1), spot(math.MaxInt, 0, 1),
		spot(0, -1, 1), spot(0, -1, -1), spot(0, 101, 1), spot(0, 101, -1), spot(6, 71, 1), spot(6, -1, 1),
		spot(0, math.MinInt, -1), spot(0, math.MaxInt, 1), spot(-1, -1, -2),
	}
	for _, way := range []int{math.MinInt, -3, -2, 0, 2, 3, math.MaxInt} {
		all = append(all, spot(0, 0, way), spot(0, 50, way), spot(6, 70, way))
	}
	return all
}

func holdSpot(t *testing.T, n impl.Net, s impl.Spot, ok bool) {
	t.Helper()
	if got := impl.SpotOk(n, s); got != ok {
		t.Errorf("%v: %v, not %v", s, got, ok)
	}
	want, back := impl.Spot{}, impl.Spot{}
	if ok {
		want, back = spot(s.Piece, s.At, -s.Way), s
	}
	turned := impl.Turn(n, s)
	if turned != want {
		t.Errorf("%v turned: %v, not %v", s, turned, want)
	}
	if got := impl.Turn(n, turned); got != back {
		t.Errorf("%v turned twice: %v, not %v", s, got, back)
	}
}

func TestSpots(t *testing.T) {
	n := yard()
	for p, one := range n.Pieces {
		for at := -2; at < one.Len+3; at++ {
			for way := -3; way < 4; way++ {
				ok := at >= 0 && at <= one.Len && (way == 1 || way == -1)
				holdSpot(t, n, spot(p, at, way), ok)
			}
		}
	}
	for _, s := range noSpots() {
		holdSpot(t, n, s, false)
	}
}

func TestSpotsAtTheLimits(t *testing.T) {
	long := shuttle(piece("a", impl.MaxLen))
	for _, way := range []int{1, -1} {
		holdSpot(t, long, spot(0, impl.MaxLen-1, way), true)
		holdSpot(t, long, spot(0, impl.MaxLen, way), true)
		holdSpot(t, long, spot(0, impl.MaxLen+1, way), false)
		holdSpot(t, chains(100, 120), spot(99, 100, way), true)
		holdSpot(t, chains(100, 120), spot(99, 101, way), false)
		holdSpot(t, chains(100, 120), spot(100, 0, way), false)
	}
}

func TestNoSpotsInANetThatIsNotRight(t *testing.T) {
	for _, c := range faults() {
		n := yard()
		c.spoil(&n)
		for p := range yard().Pieces {
			holdSpot(t, n, spot(p, 1, 1), false)
			holdSpot(t, n, spot(p, 0, -1), false)
		}
	}
	holdSpot(t, impl.Net{}, spot(0, 0, 1), false)
	holdSpot(t, impl.Net{Pieces: yard().Pieces}, spot(0, 0, 1), false)
	holdSpot(t, impl.Net{Joints: yard().Joints}, spot(0, 0, 1), false)
	holdSpot(t, chains(101, 120), spot(0, 0, 1), false)
	holdSpot(t, chains(100, 121), spot(0, 0, 1), false)
	holdSpot(t, shuttle(piece("a", impl.MaxLen+1)), spot(0, 0, 1), false)
}

func TestLimitsOfDrivesAreTheDocuments(t *testing.T) {
	if impl.MaxFar != 1000000 || impl.MaxOver != 1000 {
		t.Error(impl.MaxFar, impl.MaxOver)
	}
}
