package tests

import (
	"testing"

	"loop.example/ballast/impl"
)

func holdLoops(t *testing.T, what string, n impl.Net, want ...string) {
	t.Helper()
	all := [][]impl.Step{}
	for _, one := range want {
		all = append(all, legs(one))
	}
	if got := impl.Loops(n); !sameLoops(got, all) {
		t.Errorf("%s: %v, not %v", what, got, all)
	}
}

func TestNoLoops(t *testing.T) {
	holdLoops(t, "between buffers", shuttle(piece("a", 5)))
	holdLoops(t, "the yard", yard())
	holdLoops(t, "back the other way alone", turning())
	line := &builder{}
	for p := range 100 {
		line.piece(1)
		if p > 0 {
			line.join(p-1, p)
		}
	}
	line.stop(end(0, 0))
	line.stop(end(99, 1))
	holdLoops(t, "all the pieces there may be, in a line", line.Net)
	for _, n := range brokenNets() {
		holdLoops(t, "not right", n)
	}
	broken := ring(5)
	broken.Pieces[0].Speed = 0
	holdLoops(t, "a ring that is not right", broken)
}

func TestLoopsOfRings(t *testing.T) {
	holdLoops(t, "a piece whose two ends meet", ring(5), "0+ 0+", "0- 0-")
	holdLoops(t, "the ends in the other order", laid([]impl.Piece{piece("a", 1)}, plain(end(0, 0), end(0, 1))), "0+ 0+", "0- 0-")
	two := []impl.Piece{piece("a", 5), piece("b", 3)}
	holdLoops(t, "two pieces", laid(two, plain(end(0, 1), end(1, 0)), plain(end(1, 1), end(0, 0))),
		"0+ 1+ 0+", "0- 1- 0-", "1+ 0+ 1+", "1- 0- 1-")
	holdLoops(t, "two pieces laid against each other", laid(two, plain(end(0, 1), end(1, 1)), plain(end(1, 0), end(0, 0))),
		"0+ 1- 0+", "0- 1+ 0-", "1+ 0- 1+", "1- 0+ 1-")
	holdLoops(t, "two rings", laid(two, plain(end(0, 1), end(0, 0)), plain(end(1, 0), end(1, 1))),
		"0+ 0+", "0- 0-", "1+ 1+", "1- 1-")
	holdLoops(t, "a ring behind a piece without one", laid(two, buffer(end(0, 1)), plain(end(1, 0), end(1, 1)), buffer(end(0, 0))),
		"1+ 1+", "1- 1-")
}

func TestLoopsOverCrossings(t *testing.T) {
	two := []impl.Piece{piece("a", 5), piece("b", 3)}
	holdLoops(t, "each its own", laid(two, crossing("x", end(0, 0), end(0, 1), end(1, 1), end(1, 0))),
		"0+ 0+", "0- 0-", "1+ 1+", "1- 1-")
	holdLoops(t, "one after the other", laid(two, crossing("x", end(0, 1), end(1, 0), end(0, 0), end(1, 1))),
		"0+ 1+ 0+", "0- 1- 0-", "1+ 0+ 1+", "1- 0- 1-")
	three := append(two, piece("c", 2))
	holdLoops(t, "of one of two tracks", laid(three, crossing("x", end(0, 1), end(0, 0), end(1, 1), end(2, 0)), buffer(end(1, 0)), buffer(end(2, 1))),
		"0+ 0+", "0- 0-")
}

func TestLoopsOverSwitches(t *testing.T) {
	holdLoops(t, "a ring with a piece to it", roundabout(), "1+ 2+ 1+", "1- 2- 1-", "2+ 1+ 2+", "2- 1- 2-")
	two := []impl.Piece{piece("a", 5), piece("b", 3)}
	holdLoops(t, "over the left end", laid(two, fork("w", end(0, 1), end(0, 0), end(1, 0)), buffer(end(1, 1))), "0+ 0+", "0- 0-")
	holdLoops(t, "over the right end", laid(two, fork("w", end(0, 0), end(1, 0), end(0, 1)), buffer(end(1, 1))), "0+ 0+", "0- 0-")
	holdLoops(t, "left and right end of one piece", laid(two, fork("w", end(1, 0), end(0, 0), end(0, 1)), buffer(end(1, 1))))
	// One is turned at both ends of piece 0: round over all of it, and over each of the switches in two ways.
	bone := laid([]impl.Piece{piece("a", 5), piece("b", 2), piece("c", 3)},
		fork("v", end(0, 0), end(1, 0), end(1, 1)), fork("w", end(0, 1), end(2, 0), end(2, 1)))
	holdLoops(t, "a bone", bone,
		"0+ 2- 0- 1- 0+", "0- 1- 0+ 2- 0-",
		"1+ 0+ 2- 0- 1+", "1- 0+ 2- 0- 1-",
		"2+ 0- 1- 0+ 2+", "2- 0- 1- 0+ 2-")
}

// ringBy is a ring of piece 0 and, from its end 1 back to its end 0, either of two ways.
func ringBy(left, right []int) impl.Net {
	n := between(left, right)
	n.Joints = n.Joints[:len(n.Joints)-4]
	// The ways begin at the end 1 of piece 0 and end at its end 0; piece 1 is a ring of its own.
	first, second := 2, 2+len(left)
	n.Joints = append(n.Joints, plain(end(1, 0), end(1, 1)),
		fork("w", end(0, 1), end(first, 0), end(second, 0)), fork("v", end(0, 0), end(second-1, 1), end(second+len(right)-1, 1)))
	return n
}

func TestLoopsThatAreAsShort(t *testing.T) {
	own := []string{"1+ 1+", "1- 1-"}
	hold := func(what string, n impl.Net, there, back string) {
		t.Helper()
		got := impl.Loops(n)
		want := [][]impl.Step{legs(there), legs(back), legs(own[0]), legs(own[1])}
		if len(got) < 4 || !sameLoops(got[:4], want) {
			t.Errorf("%s: %v, not %v", what, got, want)
		}
	}
	hold("the shorter one", ringBy([]int{6}, []int{5}), "0+ 3+ 0+", "0- 3- 0-")
	hold("the other shorter one", ringBy([]int{5}, []int{6}), "0+ 2+ 0+", "0- 2- 0-")
	hold("the less piece", ringBy([]int{5}, []int{5}), "0+ 2+ 0+", "0- 2- 0-")
	hold("the less piece on the right", swapped(ringBy([]int{5}, []int{5}), 2, 3), "0+ 2+ 0+", "0- 2- 0-")
	hold("fewer steps", ringBy([]int{3, 2}, []int{5}), "0+ 4+ 0+", "0- 4- 0-")
	hold("more steps, but shorter", ringBy([]int{2, 2}, []int{5}), "0+ 2+ 3+ 0+", "0- 3- 2- 0-")
	hold("where they first part: other ones there and back", swapped(ringBy([]int{2, 3}, []int{3, 2}), 3, 5), "0+ 2+ 5+ 0+", "0- 3- 4- 0-")
}

func TestLoopsOfAllNets(t *testing.T) {
	for _, n := range append(smallNets(), wayNets()...) {
		want := [][]impl.Step{}
		for p := range n.Pieces {
			for _, way := range []int{1, -1} {
				s := startOf(n, impl.Step{Piece: p, Way: way})
				if best := walkAll(n, s, s); best.Ok {
					want = append(want, best.Steps)
				}
			}
		}
		if got := impl.Loops(n); !sameLoops(got, want) {
			t.Fatalf("%q: %v, not %v", tell(n), got, want)
		}
	}
}

func TestLoopsInMazes(t *testing.T) {
	for _, n := range append(mazes(100, 1), append(mazes(30, 5), mazes(9, 20)...)...) {
		want := [][]impl.Step{}
		for p := range n.Pieces {
			for _, way := range []int{1, -1} {
				s := impl.Step{Piece: p, Way: way}
				if best := relax(n, startOf(n, s))[s]; best.Ok {
					want = append(want, best.Steps)
				}
			}
		}
		if got := impl.Loops(n); !sameLoops(got, want) {
			t.Fatalf("%q: %v, not %v", tell(n), got, want)
		}
	}
}

// A joint over which one can come is one over which one can come back, so no piece has a loop one way alone.
func TestLoopsGoBothWays(t *testing.T) {
	nets := append(anyNets(200), tangle(), yard(), turning(), roundabout(), mazes(100, 1)[0])
	for _, n := range nets {
		all := impl.Loops(n)
		if len(all)%2 != 0 {
			t.Fatalf("%q: %v", tell(n), all)
		}
		for i := 0; i < len(all); i += 2 {
			there, back := all[i], all[i+1]
			if there[0].Piece != back[0].Piece || there[0].Way != 1 || back[0].Way != -1 || loopLength(n, there) != loopLength(n, back) {
				t.Fatalf("%q: there %v, back %v", tell(n), there, back)
			}
			if i > 0 && all[i-1][0].Piece >= there[0].Piece {
				t.Fatalf("%q: %v behind %v", tell(n), there, all[i-1])
			}
			if there[len(there)-1] != there[0] || back[len(back)-1] != back[0] || !follow(n, there) || !follow(n, back) {
				t.Fatalf("%q: there %v, back %v", tell(n), there, back)
			}
		}
	}
}

func loopLength(n impl.Net, steps []impl.Step) int {
	sum := 0
	for _, s := range steps[1:] {
		sum += n.Pieces[s.Piece].Len
	}
	return sum
}

func TestLoopsOfAllThePiecesThereMayBe(t *testing.T) {
	b := &builder{}
	for range 100 {
		b.piece(impl.MaxLen)
	}
	for p := range 100 {
		b.join(p, (p+1)%100)
	}
	got := impl.Loops(b.Net)
	if len(got) != 200 {
		t.Fatal(len(got))
	}
	for i, steps := range got {
		if len(steps) != 101 || steps[0].Piece != i/2 || steps[0].Way != 1-2*(i%2) {
			t.Fatalf("%d: %v", i, steps)
		}
	}
}
