package tests

import (
	"slices"
	"testing"

	"loop.example/ballast/impl"
)

type crossed struct {
	e     impl.End
	joint int
	to    []impl.End
}

func holdAcross(t *testing.T, n impl.Net, cases []crossed) {
	t.Helper()
	for _, c := range cases {
		if got := impl.JointAt(n, c.e); got != c.joint {
			t.Errorf("joint at %v: %d, not %d", c.e, got, c.joint)
		}
		if got := impl.Across(n, c.e); !slices.Equal(got, c.to) {
			t.Errorf("across from %v: %v, not %v", c.e, got, c.to)
		}
	}
}

func TestAcrossEveryKind(t *testing.T) {
	holdAcross(t, yard(), []crossed{
		{end(0, 0), 0, nil},
		{end(0, 1), 1, []impl.End{end(1, 0)}},
		{end(1, 0), 1, []impl.End{end(0, 1)}},
		{end(1, 1), 2, []impl.End{end(2, 0), end(3, 0)}},
		{end(2, 0), 2, []impl.End{end(1, 1)}},
		{end(3, 0), 2, []impl.End{end(1, 1)}},
		{end(2, 1), 3, []impl.End{end(4, 0)}},
		{end(4, 0), 3, []impl.End{end(2, 1)}},
		{end(3, 1), 3, []impl.End{end(5, 0)}},
		{end(5, 0), 3, []impl.End{end(3, 1)}},
		{end(6, 0), 4, []impl.End{end(4, 1), end(5, 1)}},
		{end(4, 1), 4, []impl.End{end(6, 0)}},
		{end(5, 1), 4, []impl.End{end(6, 0)}},
		{end(6, 1), 5, nil},
	})
}

func TestAcrossTellsLeftAheadOfRight(t *testing.T) {
	n := yard()
	n.Joints[2].Ends[1], n.Joints[2].Ends[2] = n.Joints[2].Ends[2], n.Joints[2].Ends[1]
	holdAcross(t, n, []crossed{{end(1, 1), 2, []impl.End{end(3, 0), end(2, 0)}}})
}

func TestAcrossToTheSamePiece(t *testing.T) {
	one := []impl.Piece{piece("a", 9)}
	two := []impl.Piece{piece("a", 9), piece("b", 9)}
	holdAcross(t, impl.Net{Pieces: one, Joints: []impl.Joint{plain(end(0, 1), end(0, 0))}}, []crossed{
		{end(0, 0), 0, []impl.End{end(0, 1)}},
		{end(0, 1), 0, []impl.End{end(0, 0)}},
	})
	holdAcross(t, impl.Net{Pieces: two, Joints: []impl.Joint{buffer(end(0, 1)), fork("w", end(0, 0), end(1, 1), end(1, 0))}}, []crossed{
		{end(0, 0), 1, []impl.End{end(1, 1), end(1, 0)}},
		{end(1, 0), 1, []impl.End{end(0, 0)}},
		{end(1, 1), 1, []impl.End{end(0, 0)}},
		{end(0, 1), 0, nil},
	})
	holdAcross(t, impl.Net{Pieces: two, Joints: []impl.Joint{crossing("x", end(0, 0), end(1, 0), end(0, 1), end(1, 1))}}, []crossed{
		{end(0, 0), 0, []impl.End{end(1, 0)}},
		{end(1, 0), 0, []impl.End{end(0, 0)}},
		{end(0, 1), 0, []impl.End{end(1, 1)}},
		{end(1, 1), 0, []impl.End{end(0, 1)}},
	})
}

// Whoever comes over a joint can come back over it.
func TestAcrossThereAndBack(t *testing.T) {
	for _, n := range []impl.Net{yard(), chains(100, 120), chains(60, 120), chains(100, 100)} {
		for p := range n.Pieces {
			for side := range 2 {
				for _, to := range impl.Across(n, end(p, side)) {
					if !slices.Contains(impl.Across(n, to), end(p, side)) {
						t.Errorf("no way back from %v to %v", to, end(p, side))
					}
					if impl.JointAt(n, to) != impl.JointAt(n, end(p, side)) {
						t.Errorf("%v and %v stand in two joints", to, end(p, side))
					}
				}
			}
		}
	}
}

func TestJointAtFindsEveryEnd(t *testing.T) {
	n := chains(100, 120)
	for j, joint := range n.Joints {
		for _, e := range joint.Ends {
			if got := impl.JointAt(n, e); got != j {
				t.Errorf("joint at %v: %d, not %d", e, got, j)
			}
		}
	}
}

func TestNoSuchEnd(t *testing.T) {
	for _, e := range noEnds() {
		holdAcross(t, yard(), []crossed{{e, -1, nil}})
	}
	for _, e := range []impl.End{end(100, 0), end(99, 2), end(-1, 1)} {
		holdAcross(t, chains(100, 120), []crossed{{e, -1, nil}})
	}
}

func TestNothingInANetThatIsNotRight(t *testing.T) {
	for _, c := range faults() {
		n := yard()
		c.spoil(&n)
		for p := -1; p < 8; p++ {
			for side := -1; side < 3; side++ {
				if j, to := impl.JointAt(n, end(p, side)), impl.Across(n, end(p, side)); j != -1 || len(to) != 0 {
					t.Errorf("%s: %d and %v at %v", c.what, j, to, end(p, side))
				}
			}
		}
	}
	holdAcross(t, impl.Net{}, []crossed{{end(0, 0), -1, nil}, {end(-1, 1), -1, nil}})
	holdAcross(t, impl.Net{Joints: yard().Joints}, []crossed{{end(0, 0), -1, nil}})
	holdAcross(t, impl.Net{Pieces: yard().Pieces}, []crossed{{end(0, 0), -1, nil}})
	holdAcross(t, chains(101, 120), []crossed{{end(0, 0), -1, nil}})
	holdAcross(t, chains(100, 121), []crossed{{end(0, 0), -1, nil}})
}
