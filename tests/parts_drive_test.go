package tests

import (
	"slices"
	"testing"

	"loop.example/ballast/impl"
)

type laidOut struct {
	what string
	lies []int
	s    impl.Spot
	far  int
	want []impl.Part
}

func holdAhead(t *testing.T, n impl.Net, cases []laidOut) {
	t.Helper()
	for _, c := range cases {
		if got := impl.Ahead(n, c.lies, c.s, c.far); !slices.Equal(got, c.want) {
			t.Errorf("%s: ahead %v, not %v", c.what, got, c.want)
		}
		if got := impl.Behind(n, c.lies, impl.Turn(n, c.s), c.far); !slices.Equal(got, c.want) {
			t.Errorf("%s: behind %v, not %v", c.what, got, c.want)
		}
	}
}

func TestAhead(t *testing.T) {
	left := []impl.Part{part(0, 40, 100), part(1, 0, 20), part(2, 0, 30), part(4, 0, 50), part(6, 0, 70)}
	holdAhead(t, yard(), []laidOut{
		{"nowhere", leftLies, spot(0, 40, 1), 0, nil},
		{"nowhere, at an end", leftLies, spot(0, 100, 1), 0, nil},
		{"within a piece", leftLies, spot(0, 40, 1), 7, []impl.Part{part(0, 40, 47)}},
		{"within a piece the other way", leftLies, spot(0, 40, -1), 7, []impl.Part{part(0, 33, 40)}},
		{"just to the end", leftLies, spot(0, 40, 1), 60, left[:1]},
		{"one behind the end", leftLies, spot(0, 40, 1), 61, []impl.Part{part(0, 40, 100), part(1, 0, 1)}},
		{"from the end to which one looks", leftLies, spot(0, 100, 1), 4, []impl.Part{part(1, 0, 4)}},
		{"from the other end", leftLies, spot(0, 0, 1), 4, []impl.Part{part(0, 0, 4)}},
		{"just to the second end", leftLies, spot(0, 40, 1), 80, left[:2]},
		{"to the buffer", leftLies, spot(0, 40, 1), 230, left},
		{"stopped at the buffer", leftLies, spot(0, 40, 1), 999, left},
		{"at the buffer", leftLies, spot(6, 70, 1), 999, nil},
		{"stopped at a switch with 0", []int{0, 0, 0, 0, 1, 0}, spot(0, 40, 1), 999, left[:2]},
		{"at a switch with 0", []int{0, 0, 0, 0, 1, 0}, spot(1, 20, 1), 999, nil},
		{"stopped at a switch that lies otherwise", []int{0, 0, 1, 0, 2, 0}, spot(0, 40, 1), 999, left[:4]},
		{"at a switch that lies otherwise", rightLies, spot(2, 0, -1), 999, nil},
		{"back by the right", rightLies, spot(6, 10, -1), 135, []impl.Part{part(6, 0, 10), part(5, 0, 60), part(3, 0, 40), part(1, 0, 20), part(0, 95, 100)}},
	})
	holdAhead(t, ring(9), []laidOut{
		{"a round", []int{0}, spot(0, 4, 1), 9, []impl.Part{part(0, 4, 9), part(0, 0, 4)}},
		{"a round the other way", []int{0}, spot(0, 4, -1), 9, []impl.Part{part(0, 0, 4), part(0, 4, 9)}},
		{"rounds", []int{0}, spot(0, 9, 1), 20, []impl.Part{part(0, 0, 9), part(0, 0, 9), part(0, 0, 2)}},
	})
}

// What lies ahead of and behind one spot, not of a spot and its turned one.
func TestBehind(t *testing.T) {
	s := spot(1, 5, 1)
	if got := impl.Ahead(yard(), leftLies, s, 20); !slices.Equal(got, []impl.Part{part(1, 5, 20), part(2, 0, 5)}) {
		t.Error(got)
	}
	if got := impl.Behind(yard(), leftLies, s, 20); !slices.Equal(got, []impl.Part{part(1, 0, 5), part(0, 85, 100)}) {
		t.Error(got)
	}
	if got := impl.Behind(yard(), leftLies, spot(0, 0, 1), 20); len(got) > 0 {
		t.Error("behind a buffer", got)
	}
	if got := impl.Behind(yard(), leftLies, spot(0, 100, 1), 20); !slices.Equal(got, []impl.Part{part(0, 80, 100)}) {
		t.Error("at an end", got)
	}
	if got := impl.Behind(yard(), leftLies, spot(1, 0, 1), 20); !slices.Equal(got, []impl.Part{part(0, 80, 100)}) {
		t.Error("just behind a joint", got)
	}
}

func TestPartsOfEverySmallDrive(t *testing.T) {
	eachDrive(func(n impl.Net, lies []int, s impl.Spot) {
		for far := range 25 {
			driven, want := creep(n, lies, s, far)
			got := impl.Ahead(n, lies, s, far)
			if !slices.Equal(got, want) {
				t.Fatalf("%q, %v, %v over %d: %v, not %v", tell(n), lies, s, far, got, want)
			}
			if impl.PartsLen(got) != driven.Far {
				t.Fatalf("%q, %v, %v over %d: %v is not as long as %v", tell(n), lies, s, far, got, driven)
			}
			if behind := impl.Behind(n, lies, impl.Turn(n, s), far); !slices.Equal(behind, want) {
				t.Fatalf("%q, %v, behind %v over %d: %v, not %v", tell(n), lies, impl.Turn(n, s), far, behind, want)
			}
		}
	})
}

func TestPartsOverTooManyJoints(t *testing.T) {
	for _, c := range []struct{ length, at, far, parts, whole int }{
		{1, 0, 1001, 1001, 1001},
		{1, 0, 1002, 1001, 1001},
		{1, 1, 1000, 1000, 1000},
		{1, 1, 1001, 1000, 1000},
		{1, 1, impl.MaxFar, 1000, 1000},
		{999, 0, impl.MaxFar, 1001, 999999},
		{1000, 0, impl.MaxFar, 1000, impl.MaxFar},
	} {
		got := impl.Ahead(ring(c.length), []int{0}, spot(0, c.at, 1), c.far)
		if len(got) != c.parts || impl.PartsLen(got) != c.whole || slices.ContainsFunc(got, func(p impl.Part) bool { return p != part(0, 0, c.length) }) {
			t.Errorf("%v: %d parts, %d long", c, len(got), impl.PartsLen(got))
		}
		if got := impl.Behind(ring(c.length), []int{0}, spot(0, c.at, -1), c.far); len(got) != c.parts || impl.PartsLen(got) != c.whole {
			t.Errorf("%v: %d parts, %d long behind", c, len(got), impl.PartsLen(got))
		}
	}
	long := shuttle(piece("a", impl.MaxLen))
	if got := impl.Ahead(long, []int{0, 0}, spot(0, impl.MaxLen, -1), impl.MaxFar); !slices.Equal(got, []impl.Part{part(0, 9000000, impl.MaxLen)}) {
		t.Error(got)
	}
}
