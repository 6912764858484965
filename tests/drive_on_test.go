package tests

import (
	"testing"

	"loop.example/ballast/impl"
)

// The joints of the yard: 0 buffer, 1 plain, 2 switch w, 3 crossing, 4 switch v, 5 buffer. Lengths: a 100, b 20, c 30, d 40, e 50, f 60, g 70.
var (
	leftLies  = []int{0, 0, 1, 0, 1, 0}
	rightLies = []int{0, 0, 2, 0, 2, 0}
)

func TestDriveWithinAPiece(t *testing.T) {
	holdRides(t, yard(), []ride{
		{"nowhere", leftLies, spot(0, 40, 1), 0, came(0, spot(0, 40, 1))},
		{"one ahead", leftLies, spot(0, 40, 1), 1, came(1, spot(0, 41, 1))},
		{"one the other way", leftLies, spot(0, 40, -1), 1, came(1, spot(0, 39, -1))},
		{"just ahead of the end", leftLies, spot(0, 40, 1), 59, came(59, spot(0, 99, 1))},
		{"just to the end", leftLies, spot(0, 40, 1), 60, came(60, spot(0, 100, 1))},
		{"just to the end at a buffer", leftLies, spot(0, 40, -1), 40, came(40, spot(0, 0, -1))},
		{"just to the end at a switch with 0", make([]int, 6), spot(1, 5, 1), 15, came(15, spot(1, 20, 1))},
		{"just to the end at a switch that lies otherwise", rightLies, spot(2, 5, -1), 5, came(5, spot(2, 0, -1))},
		{"all of it", leftLies, spot(0, 0, 1), 100, came(100, spot(0, 100, 1))},
		{"all of it the other way", leftLies, spot(0, 100, -1), 100, came(100, spot(0, 0, -1))},
		{"nowhere, at the end to which one looks", leftLies, spot(0, 100, 1), 0, came(0, spot(0, 100, 1))},
		{"nowhere, at a buffer", leftLies, spot(0, 0, -1), 0, came(0, spot(0, 0, -1))},
		{"one, from a buffer", leftLies, spot(0, 0, 1), 1, came(1, spot(0, 1, 1))},
	})
}

func TestDriveOverJoints(t *testing.T) {
	holdRides(t, yard(), []ride{
		{"a plain joint", leftLies, spot(0, 40, 1), 61, came(61, spot(1, 1, 1))},
		{"a plain joint, from its end", leftLies, spot(0, 100, 1), 1, came(1, spot(1, 1, 1))},
		{"a plain joint the other way", leftLies, spot(1, 3, -1), 5, came(5, spot(0, 98, -1))},
		{"a switch from the tip, left", leftLies, spot(1, 20, 1), 1, came(1, spot(2, 1, 1))},
		{"a switch from the tip, right", rightLies, spot(1, 20, 1), 1, came(1, spot(3, 1, 1))},
		{"a switch from its left end", leftLies, spot(2, 4, -1), 9, came(9, spot(1, 15, -1))},
		{"a switch from its right end", rightLies, spot(3, 4, -1), 9, came(9, spot(1, 15, -1))},
		{"a crossing from the first to the second", leftLies, spot(2, 29, 1), 11, came(11, spot(4, 10, 1))},
		{"a crossing from the second to the first", leftLies, spot(4, 10, -1), 11, came(11, spot(2, 29, -1))},
		{"a crossing from the third to the fourth", leftLies, spot(3, 39, 1), 11, came(11, spot(5, 10, 1))},
		{"a crossing from the fourth to the third", leftLies, spot(5, 10, -1), 11, came(11, spot(3, 39, -1))},
		{"another switch from the tip, left", leftLies, spot(6, 2, -1), 10, came(10, spot(4, 42, -1))},
		{"another switch from the tip, right", rightLies, spot(6, 2, -1), 10, came(10, spot(5, 52, -1))},
		{"just to the end of the second piece", leftLies, spot(0, 0, 1), 120, came(120, spot(1, 20, 1))},
		{"all of it by the left", leftLies, spot(0, 0, 1), 270, came(270, spot(6, 70, 1))},
		{"all of it by the right", rightLies, spot(0, 0, 1), 290, came(290, spot(6, 70, 1))},
		{"all of it back by the left", leftLies, spot(6, 70, -1), 270, came(270, spot(0, 0, -1))},
		{"all of it back by the right", rightLies, spot(6, 70, -1), 290, came(290, spot(0, 0, -1))},
	})
}

// Two pieces laid against each other: one comes to the second by its end 1, or from end 0 to end 0.
func TestDriveOverPiecesLaidTheOtherWay(t *testing.T) {
	two := []impl.Piece{piece("a", 10), piece("b", 7)}
	holdRides(t, laid(two, plain(end(0, 1), end(1, 1)), buffer(end(0, 0)), buffer(end(1, 0))), []ride{
		{"end 1 to end 1", []int{0, 0, 0}, spot(0, 6, 1), 6, came(6, spot(1, 5, -1))},
		{"and back", []int{0, 0, 0}, spot(1, 5, 1), 6, came(6, spot(0, 6, -1))},
		{"to the far end", []int{0, 0, 0}, spot(0, 6, 1), 11, came(11, spot(1, 0, -1))},
		{"to the buffer", []int{0, 0, 0}, spot(0, 6, 1), 12, ended(1, 11, 2, spot(1, 0, -1))},
	})
	holdRides(t, laid(two, plain(end(0, 0), end(1, 0)), buffer(end(0, 1)), buffer(end(1, 1))), []ride{
		{"end 0 to end 0", []int{0, 0, 0}, spot(0, 6, -1), 8, came(8, spot(1, 2, 1))},
		{"and back", []int{0, 0, 0}, spot(1, 2, -1), 8, came(8, spot(0, 6, 1))},
	})
}

func TestDriveAsFarAsMayBe(t *testing.T) {
	long := shuttle(piece("a", impl.MaxLen))
	holdRides(t, long, []ride{
		{"one less", []int{0, 0}, spot(0, 0, 1), 999999, came(999999, spot(0, 999999, 1))},
		{"just as far", []int{0, 0}, spot(0, 0, 1), 1000000, came(1000000, spot(0, 1000000, 1))},
		{"one more", []int{0, 0}, spot(0, 0, 1), 1000001, impl.Driven{Code: 4}},
		{"just as far, back", []int{0, 0}, spot(0, impl.MaxLen, -1), 1000000, came(1000000, spot(0, 9000000, -1))},
		{"just as far, to the end", []int{0, 0}, spot(0, 9000000, 1), 1000000, came(1000000, spot(0, impl.MaxLen, 1))},
		{"just as far, one too near", []int{0, 0}, spot(0, 9000001, 1), 1000000, ended(1, 999999, 1, spot(0, impl.MaxLen, 1))},
	})
	holdRides(t, ring(1000), []ride{
		{"rounds", []int{0}, spot(0, 0, 1), 1000000, came(1000000, spot(0, 1000, 1))},
		{"rounds over as many joints as may be", []int{0}, spot(0, 1000, 1), 1000000, came(1000000, spot(0, 1000, 1))},
	})
	holdRides(t, ring(999), []ride{
		{"rounds over a joint too many", []int{0}, spot(0, 0, 1), 1000000, ended(5, 999999, 0, spot(0, 999, 1))},
	})
}

func TestEverySmallDrive(t *testing.T) {
	eachDrive(func(n impl.Net, lies []int, s impl.Spot) {
		for far := range 25 {
			want, _ := creep(n, lies, s, far)
			if got := impl.Drive(n, lies, s, far); got != want {
				t.Fatalf("%q, %v, %v over %d: %v, not %v", tell(n), lies, s, far, got, want)
			}
		}
	})
}

// farther is the drive of a and then, from where one came, of b.
func farther(n impl.Net, lies []int, s impl.Spot, a, b int) impl.Driven {
	first := impl.Drive(n, lies, s, a)
	then := impl.Drive(n, lies, first.Spot, b)
	then.Far += first.Far
	return then
}

func TestToDriveOnIsToDriveFarther(t *testing.T) {
	eachDrive(func(n impl.Net, lies []int, s impl.Spot) {
		for a := range 9 {
			for _, b := range []int{0, 1, 2, 5, 13} {
				want := impl.Drive(n, lies, s, a+b)
				got := farther(n, lies, s, a, b)
				// With nothing left to drive no joint is asked: whoever was stopped already is told so at once only.
				if b == 0 {
					got.Code, got.Joint = want.Code, want.Joint
				}
				if got != want {
					t.Fatalf("%q, %v, %v over %d and %d: %v, not %v", tell(n), lies, s, a, b, got, want)
				}
			}
		}
	})
	for _, a := range []int{0, 1, 99, 100, 101, 400000, 500000} {
		want := impl.Drive(ring(1000), []int{0}, spot(0, 300, -1), a+400000)
		if got := farther(ring(1000), []int{0}, spot(0, 300, -1), a, 400000); got != want {
			t.Errorf("%d: %v, not %v", a, got, want)
		}
	}
}

// Only how many joints a drive goes over at once is counted: in two drives one comes farther.
func TestToDriveOnOverTooManyJoints(t *testing.T) {
	if got := farther(ring(1), []int{0}, spot(0, 0, 1), 1001, 1000); got != came(2001, spot(0, 1, 1)) {
		t.Error(got)
	}
	if got := farther(ring(1), []int{0}, spot(0, 0, 1), 1002, 1000); got != came(2001, spot(0, 1, 1)) {
		t.Error(got)
	}
	if got := impl.Drive(ring(1), []int{0}, spot(0, 0, 1), 2001); got != ended(5, 1001, 0, spot(0, 1, 1)) {
		t.Error(got)
	}
}

func holdBack(t *testing.T, n impl.Net, lies []int, s impl.Spot, far int) {
	t.Helper()
	there := impl.Drive(n, lies, s, far)
	back := impl.Drive(n, lies, impl.Turn(n, there.Spot), there.Far)
	if back != came(there.Far, impl.Turn(n, s)) {
		t.Fatalf("%q, %v, %v over %d: there %v, back %v", tell(n), lies, s, far, there, back)
	}
}

func TestToTurnAndDriveAsFarIsToComeBack(t *testing.T) {
	eachDrive(func(n impl.Net, lies []int, s impl.Spot) {
		if atItsEnd(n, s) {
			return
		}
		for far := range 25 {
			holdBack(t, n, lies, s, far)
		}
	})
	for _, far := range []int{999, 1000, 1001, 1002, 5000, impl.MaxFar} {
		holdBack(t, ring(1), []int{0}, spot(0, 0, 1), far)
		holdBack(t, ring(1), []int{0}, spot(0, 1, -1), far)
		holdBack(t, ring(999), []int{0}, spot(0, 5, -1), far)
		holdBack(t, ring(1000), []int{0}, spot(0, 0, 1), far)
	}
}

// From the end to which one looks one goes over the joint; on the way back one stays just ahead of it.
func TestBackToTheEndToWhichOneLooked(t *testing.T) {
	there := impl.Drive(yard(), leftLies, spot(0, 100, 1), 5)
	if there != came(5, spot(1, 5, 1)) {
		t.Error(there)
	}
	if back := impl.Drive(yard(), leftLies, impl.Turn(yard(), there.Spot), 5); back != came(5, spot(1, 0, -1)) {
		t.Error(back)
	}
}
