package tests

import (
	"cmp"
	"math"
	"slices"
	"strconv"
	"testing"

	"loop.example/ballast/impl"
)

func holdReach(t *testing.T, what string, n impl.Net, s impl.Spot, far int, want ...impl.Spot) {
	t.Helper()
	if got := impl.Reach(n, s, far); !slices.Equal(got, want) {
		t.Errorf("%s: %v, not %v", what, got, want)
	}
}

func TestReach(t *testing.T) {
	n := yard()
	holdReach(t, "nowhere", n, spot(0, 40, 1), 0, spot(0, 40, 1))
	holdReach(t, "nowhere, the other way", n, spot(0, 40, -1), 0, spot(0, 40, -1))
	holdReach(t, "nowhere, ahead of a joint", n, spot(0, 100, 1), 0, spot(0, 100, 1))
	holdReach(t, "nowhere, behind a joint", n, spot(1, 0, 1), 0, spot(1, 0, 1))
	holdReach(t, "nowhere, at a buffer", n, spot(0, 0, -1), 0, spot(0, 0, -1))
	holdReach(t, "one", n, spot(0, 40, 1), 1, spot(0, 41, 1))
	holdReach(t, "one, the other way", n, spot(0, 40, -1), 1, spot(0, 39, -1))
	holdReach(t, "one, from just ahead of a joint", n, spot(0, 100, 1), 1, spot(1, 1, 1))
	holdReach(t, "one, from just behind a joint", n, spot(1, 0, 1), 1, spot(1, 1, 1))
	holdReach(t, "one, from just ahead of a switch", n, spot(1, 20, 1), 1, spot(2, 1, 1), spot(3, 1, 1))
	holdReach(t, "just ahead of a joint", n, spot(0, 40, 1), 60, spot(0, 100, 1))
	holdReach(t, "one behind a joint", n, spot(0, 40, 1), 61, spot(1, 1, 1))
	holdReach(t, "just ahead of a switch", n, spot(0, 40, 1), 80, spot(1, 20, 1))
	holdReach(t, "both ways of a switch", n, spot(0, 40, 1), 81, spot(2, 1, 1), spot(3, 1, 1))
	holdReach(t, "just ahead of a crossing, and not yet there", n, spot(1, 10, 1), 40, spot(2, 30, 1), spot(3, 30, 1))
	holdReach(t, "behind a crossing, and just ahead of it", n, spot(1, 10, 1), 50, spot(3, 40, 1), spot(4, 10, 1))
	holdReach(t, "to the last piece by one of two", n, spot(1, 10, 1), 91, spot(5, 41, 1), spot(6, 1, 1))
	holdReach(t, "to the last piece by both", n, spot(1, 10, 1), 130, spot(6, 20, 1), spot(6, 40, 1))
	holdReach(t, "to the buffer by one, not yet by the other", n, spot(1, 10, 1), 160, spot(6, 50, 1), spot(6, 70, 1))
	holdReach(t, "one that ends at the buffer earlier does not count", n, spot(1, 10, 1), 161, spot(6, 51, 1))
	holdReach(t, "just to the buffer by the other", n, spot(1, 10, 1), 180, spot(6, 70, 1))
	holdReach(t, "all end at the buffer earlier", n, spot(1, 10, 1), 181)
	holdReach(t, "back, from the left", n, spot(4, 10, -1), 60, spot(1, 0, -1))
	holdReach(t, "back, over a switch from its tip", n, spot(6, 10, -1), 20, spot(4, 40, -1), spot(5, 50, -1))
	holdReach(t, "one, from the buffer", n, spot(0, 0, -1), 1)
}

func TestReachIsInOrder(t *testing.T) {
	// The left end is that of a piece behind the right one in the list.
	n := swapped(yard(), 2, 3)
	holdReach(t, "by piece", n, spot(1, 20, 1), 5, spot(2, 5, 1), spot(3, 5, 1))
	// Over the loop to both sides: on one piece by place, then by way.
	loop := turning()
	holdReach(t, "by place", loop, spot(0, 5, 1), 2, spot(1, 2, 1), spot(1, 7, -1))
	holdReach(t, "by place, the other way first", loop, spot(0, 5, 1), 7, spot(1, 2, -1), spot(1, 7, 1))
	loop.Pieces[1].Len = 8
	holdReach(t, "by way at one place", loop, spot(0, 5, 1), 4, spot(1, 4, -1), spot(1, 4, 1))
	holdReach(t, "once what is come to by both", loop, spot(0, 5, 1), 10, spot(0, 3, -1))
}

func TestReachOfFarThatIsNone(t *testing.T) {
	long := shuttle(piece("a", impl.MaxLen))
	holdReach(t, "as far as may be", long, spot(0, 7, 1), 1000000, spot(0, 1000007, 1))
	holdReach(t, "one more", long, spot(0, 7, 1), 1000001)
	holdReach(t, "as far as may be, the other way", long, spot(0, impl.MaxLen, -1), impl.MaxFar, spot(0, 9000000, -1))
	holdReach(t, "one more, the other way", long, spot(0, impl.MaxLen, -1), impl.MaxFar+1)
	for _, far := range []int{-1, math.MinInt, math.MaxInt} {
		holdReach(t, "far", long, spot(0, 7, 1), far)
		holdReach(t, "far", long, spot(0, 7, -1), far)
	}
}

func TestReachOfWhatIsNone(t *testing.T) {
	for _, s := range noSpots() {
		for _, far := range []int{0, 1, 100} {
			holdReach(t, "no spot", yard(), s, far)
		}
	}
	for _, n := range brokenNets() {
		for _, far := range []int{0, 1, 100} {
			holdReach(t, tell(n), n, spot(0, 40, 1), far)
		}
	}
}

func bySpot(a, b impl.Spot) int {
	return cmp.Or(cmp.Compare(a.Piece, b.Piece), cmp.Compare(a.At, b.At), cmp.Compare(a.Way, b.Way))
}

// creepOn is all spots one farther than some, over any joint.
func creepOn(n impl.Net, all []impl.Spot) []impl.Spot {
	on := []impl.Spot{}
	for _, s := range all {
		if !atItsEnd(n, s) {
			on = append(on, spot(s.Piece, s.At+s.Way, s.Way))
			continue
		}
		for _, next := range onward(n, stepOf(s)) {
			s := startOf(n, next)
			on = append(on, spot(s.Piece, s.At+s.Way, s.Way))
		}
	}
	slices.SortFunc(on, bySpot)
	return slices.Compact(on)
}

func TestReachOneByOne(t *testing.T) {
	for _, n := range append(wayNets(), smallNets()...) {
		for _, s := range allSpots(n) {
			want := []impl.Spot{s}
			for far := range 16 {
				if got := impl.Reach(n, s, far); !slices.Equal(got, want) {
					t.Fatalf("%q, %v over %d: %v, not %v", tell(n), s, far, got, want)
				}
				want = creepOn(n, want)
			}
		}
	}
}

// With so few pieces and so short drives there is never too much to look at.
func TestReachInMazes(t *testing.T) {
	for _, n := range append(mazes(30, 5), mazes(9, 20)...) {
		for p := range n.Pieces {
			s := spot(p, 0, 1-2*(p%2))
			want := []impl.Spot{s}
			for far := range 17 {
				if got := impl.Reach(n, s, far); !slices.Equal(got, want) {
					t.Fatalf("%q, %v over %d: %v, not %v", tell(n), s, far, got, want)
				}
				want = creepOn(n, want)
			}
		}
	}
}

func TestEveryDriveEndsAtASpotOfReach(t *testing.T) {
	for _, n := range append(wayNets(), yard()) {
		every := allLies(n)
		for _, s := range someSpots(n) {
			for _, far := range []int{0, 1, 2, 3, 5, 8, 13, 21, 90} {
				reach := impl.Reach(n, s, far)
				for _, lies := range every {
					if d := impl.Drive(n, lies, s, far); d.Code == 0 && !slices.Contains(reach, d.Spot) {
						t.Fatalf("%q, %v over %d comes to %v: %v", tell(n), s, far, d, reach)
					}
				}
			}
		}
	}
}

// What Shortest tells is a spot of Reach, if it is not just behind a joint, and is none of a shorter one.
func TestReachComesAsSoonAsShortest(t *testing.T) {
	for _, n := range append(knots(), turning(), roundabout()) {
		for _, a := range someSpots(n) {
			for _, b := range someSpots(n) {
				p := impl.Shortest(n, a, b)
				behind := len(p.Steps) > 1 && b == startOf(n, stepOf(b))
				for far := range 12 {
					there := slices.Contains(impl.Reach(n, a, far), b)
					if there && (!p.Ok || far < p.Far) || !there && p.Ok && far == p.Far && !behind {
						t.Fatalf("%q, %v to %v over %d: %v, %v", tell(n), a, b, far, there, p)
					}
				}
			}
		}
	}
}

// builder lays a net piece by piece.
type builder struct {
	impl.Net
}

func (b *builder) piece(length int) int {
	b.Pieces = append(b.Pieces, piece("p"+strconv.Itoa(len(b.Pieces)), length))
	return len(b.Pieces) - 1
}

func (b *builder) join(from, to int) {
	b.Joints = append(b.Joints, plain(end(from, 1), end(to, 0)))
}

func (b *builder) stop(e impl.End) {
	b.Joints = append(b.Joints, buffer(e))
}

// fork lays a switch from piece tip to two others; merge one from two others to piece tip.
func (b *builder) fork(tip, left, right int) {
	b.Joints = append(b.Joints, fork("s"+strconv.Itoa(len(b.Joints)), end(tip, 1), end(left, 0), end(right, 0)))
}

func (b *builder) merge(tip, left, right int) {
	b.Joints = append(b.Joints, fork("s"+strconv.Itoa(len(b.Joints)), end(tip, 0), end(left, 1), end(right, 1)))
}

// ladder goes on from a piece over pairs of a piece of length 1 and a longer one, again and again, and is the last piece: one comes there over as many lengths as there are sums of the differences.
func (b *builder) ladder(from int, differences ...int) int {
	for _, d := range differences {
		left, right, to := b.piece(1), b.piece(1+d), b.piece(1)
		b.fork(from, left, right)
		b.merge(to, left, right)
		from = to
	}
	return from
}

// detour goes on from a piece by one piece of length 2 or by two of length 1: one comes over one length, but in two rounds.
func (b *builder) detour(from int) int {
	straight, first, second, to := b.piece(2), b.piece(1), b.piece(1), b.piece(1)
	b.fork(from, straight, first)
	b.join(first, second)
	b.merge(to, straight, second)
	return to
}

// hundred has the sums 0 .. 99.
var hundred = []int{1, 1, 1, 1, 5, 5, 5, 5, 25, 25, 25}

// fiveHundred has the sums 0 .. 499.
var fiveHundred = []int{1, 1, 1, 1, 5, 5, 5, 5, 25, 25, 25, 25, 125, 125, 125}

// spread ends a net by a switch to two pieces of a length, both with a buffer at the end.
func (b *builder) spread(from, length int) (left, right int) {
	left, right = b.piece(length), b.piece(length)
	b.fork(from, left, right)
	b.stop(end(left, 1))
	b.stop(end(right, 1))
	return left, right
}

func TestReachOfAsManySpotsAsMayBe(t *testing.T) {
	b := &builder{}
	start := b.piece(10)
	b.stop(end(start, 0))
	left, right := b.spread(b.ladder(start, hundred...), 2000)
	// The shortest way there: the first piece, and two pieces of 1 for each of the pairs.
	into := 1000 - 10 - 2*len(hundred)
	want := []impl.Spot{}
	for _, p := range []int{left, right} {
		for sum := 99; sum >= 0; sum-- {
			want = append(want, spot(p, into-sum, 1))
		}
	}
	if len(want) != impl.MaxFound {
		t.Fatal(len(want))
	}
	holdReach(t, "as many as may be", b.Net, spot(start, 0, 1), 1000, want...)
}

func TestReachOfSpotsThatAreToldTwice(t *testing.T) {
	b := &builder{}
	start := b.piece(10)
	b.stop(end(start, 0))
	b.spread(b.ladder(b.detour(start), hundred...), 2000)
	// Each of them is told in two rounds.
	if got := impl.Reach(b.Net, spot(start, 0, 1), 1000); len(got) != impl.MaxFound {
		t.Errorf("%d spots", len(got))
	}
}

func TestReachOfASpotTooMany(t *testing.T) {
	b := &builder{}
	start, main, long := b.piece(10), b.piece(1), b.piece(2000)
	b.stop(end(start, 0))
	b.fork(start, main, long)
	b.stop(end(long, 1))
	left, _ := b.spread(b.ladder(main, hundred...), 2000)
	holdReach(t, "one too many", b.Net, spot(start, 0, 1), 1000)
	// Without the one at the side they are not too many.
	if got := impl.Reach(b.Net, spot(main, 0, 1), 1000); len(got) != impl.MaxFound {
		t.Errorf("%d spots", len(got))
	}
	// As long as drives are on the ladder there are not so many; the last spot comes over the shortest one.
	if got := impl.Reach(b.Net, spot(start, 0, 1), 40); len(got) == 0 || got[len(got)-1].Piece != left+1 {
		t.Error(got)
	}
}

// crowd is a net in which 500 drives come to a switch in one round, so that 1000 go on, all of them to buffers; lead lays what is ahead of it.
func crowd(lead func(b *builder, start int) int) (impl.Net, impl.Spot) {
	b := &builder{}
	start := b.piece(1)
	b.stop(end(start, 0))
	last := b.ladder(lead(b, start), fiveHundred...)
	for range 2 {
		dead := b.piece(3)
		b.stop(end(dead, 1))
	}
	dead := len(b.Pieces) - 2
	left, right := b.piece(1), b.piece(1)
	b.fork(last, left, right)
	b.join(left, dead)
	b.join(right, dead+1)
	return b.Net, spot(start, 0, 1)
}

// toTheSide lays a switch to a piece on which a drive comes as far at once.
func toTheSide(b *builder, start int) int {
	main, long := b.piece(1), b.piece(2000)
	b.fork(start, main, long)
	b.stop(end(long, 1))
	return main
}

// toARing lays a switch to a ring on which a drive goes round after round.
func toARing(b *builder, start int) int {
	main, in, round := b.piece(1), b.piece(1), b.piece(10)
	b.fork(start, main, in)
	b.merge(round, in, round)
	return main
}

func TestReachOfAsManyDrivesAsMayBe(t *testing.T) {
	n, s := crowd(toTheSide)
	holdReach(t, "1000 drives go on", n, s, 1000, spot(2, 999, 1))
	n, s = crowd(toARing)
	holdReach(t, "1000 drives go on, and one more", n, s, 1000)
	// With one pair less there are not so many.
	b := &builder{}
	start := b.piece(1)
	b.stop(end(start, 0))
	last := b.ladder(toARing(b, start), fiveHundred[:14]...)
	b.stop(end(last, 1))
	holdReach(t, "the one alone", b.Net, spot(start, 0, 1), 1000, spot(3, 8, 1))
	n, s = crowd(func(b *builder, start int) int { return b.detour(toTheSide(b, start)) })
	holdReach(t, "1000 drives go on, and those that come a round later", n, s, 1000)
}

func TestReachOfAsManyRoundsAsMayBe(t *testing.T) {
	holdReach(t, "round MaxOver", ring(1), spot(0, 0, 1), 1001, spot(0, 1, 1))
	holdReach(t, "one behind it", ring(1), spot(0, 0, 1), 1002)
	holdReach(t, "far behind it", ring(1), spot(0, 0, 1), impl.MaxFar)
	holdReach(t, "round MaxOver, from the end", ring(1), spot(0, 1, 1), 1000, spot(0, 1, 1))
	holdReach(t, "one behind it, from the end", ring(1), spot(0, 1, 1), 1001)
	holdReach(t, "round MaxOver, the other way", ring(1), spot(0, 1, -1), 1001, spot(0, 0, -1))
	holdReach(t, "one behind it, the other way", ring(1), spot(0, 1, -1), 1002)
	holdReach(t, "far, and round MaxOver", ring(1000), spot(0, 1000, 1), impl.MaxFar, spot(0, 1000, 1))
	holdReach(t, "far, one round less", ring(1000), spot(0, 0, 1), impl.MaxFar, spot(0, 1000, 1))
	holdReach(t, "far, and a round too many", ring(999), spot(0, 0, 1), impl.MaxFar)
	holdReach(t, "far, not yet a round too many", ring(999), spot(0, 0, 1), 999999, spot(0, 999, 1))
}
