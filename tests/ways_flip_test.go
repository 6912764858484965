package tests

import (
	"slices"
	"testing"

	"loop.example/ballast/impl"
)

// flip is a net with one of its pieces laid the other way round, and how what is told of the one is told of the other.
type flip struct {
	was, is impl.Net
	piece   int
}

func flipped(n impl.Net, piece int) flip {
	f := flip{was: n, is: impl.Net{Pieces: n.Pieces}, piece: piece}
	for _, j := range n.Joints {
		ends := []impl.End{}
		for _, e := range j.Ends {
			ends = append(ends, f.end(e))
		}
		f.is.Joints = append(f.is.Joints, impl.Joint{Kind: j.Kind, Name: j.Name, Ends: ends})
	}
	return f
}

func (f flip) end(e impl.End) impl.End {
	if e.Piece == f.piece {
		e.Side = 1 - e.Side
	}
	return e
}

func (f flip) spot(s impl.Spot) impl.Spot {
	if s.Piece == f.piece {
		s.At, s.Way = f.was.Pieces[f.piece].Len-s.At, -s.Way
	}
	return s
}

func (f flip) driven(d impl.Driven) impl.Driven {
	d.Spot = f.spot(d.Spot)
	return d
}

func (f flip) parts(all []impl.Part) []impl.Part {
	all = slices.Clone(all)
	for i, one := range all {
		if one.Piece == f.piece {
			length := f.was.Pieces[f.piece].Len
			all[i].From, all[i].To = length-one.To, length-one.From
		}
	}
	return all
}

func (f flip) steps(all []impl.Step) []impl.Step {
	all = slices.Clone(all)
	for i, one := range all {
		if one.Piece == f.piece {
			all[i].Way = -one.Way
		}
	}
	return all
}

func (f flip) reach(all []impl.Spot) []impl.Spot {
	other := []impl.Spot{}
	for _, s := range all {
		other = append(other, f.spot(s))
	}
	slices.SortFunc(other, bySpot)
	return other
}

func flipNets() []impl.Net {
	return append(knots(), smallYard(), turning(), roundabout(), between([]int{2, 3}, []int{4}), anyNets(1)[0], anyNets(9)[8])
}

func eachFlip(see func(f flip)) {
	for _, n := range flipNets() {
		for p := range n.Pieces {
			see(flipped(n, p))
		}
	}
}

func TestDrivesOverAPieceLaidTheOtherWay(t *testing.T) {
	eachFlip(func(f flip) {
		for _, lies := range allLies(f.was) {
			for _, s := range someSpots(f.was) {
				for far := range 15 {
					was, is := impl.Drive(f.was, lies, s, far), impl.Drive(f.is, lies, f.spot(s), far)
					if f.driven(was) != is {
						t.Fatalf("%q, piece %d, %v over %d: %v, then %v", tell(f.was), f.piece, s, far, was, is)
					}
				}
				for _, far := range []int{0, 1, 2, 7, 14} {
					ahead, behind := impl.Ahead(f.was, lies, s, far), impl.Behind(f.was, lies, s, far)
					if !slices.Equal(f.parts(ahead), impl.Ahead(f.is, lies, f.spot(s), far)) || !slices.Equal(f.parts(behind), impl.Behind(f.is, lies, f.spot(s), far)) {
						t.Fatalf("%q, piece %d, %v over %d: other parts", tell(f.was), f.piece, s, far)
					}
				}
			}
		}
	})
}

func TestJointsOfAPieceLaidTheOtherWay(t *testing.T) {
	eachFlip(func(f flip) {
		if impl.NetOk(f.is) != (impl.Fault{}) {
			t.Fatalf("%q: not right", tell(f.is))
		}
		for p := range f.was.Pieces {
			for side := range 2 {
				e := end(p, side)
				over := []impl.End{}
				for _, to := range impl.Across(f.was, e) {
					over = append(over, f.end(to))
				}
				if impl.JointAt(f.was, e) != impl.JointAt(f.is, f.end(e)) || !slices.Equal(over, impl.Across(f.is, f.end(e))) {
					t.Fatalf("%q, piece %d, %v", tell(f.was), f.piece, e)
				}
			}
		}
	})
}

// Of ways that are as short another one may be told, since steps are held against each other by their Way: it is as long, over as many steps.
func TestWaysOverAPieceLaidTheOtherWay(t *testing.T) {
	eachFlip(func(f flip) {
		for _, a := range someSpots(f.was) {
			for _, b := range someSpots(f.was) {
				was, is := impl.Shortest(f.was, a, b), impl.Shortest(f.is, f.spot(a), f.spot(b))
				if was.Ok != is.Ok || was.Far != is.Far || len(was.Steps) != len(is.Steps) {
					t.Fatalf("%q, piece %d, %v to %v: %v, then %v", tell(f.was), f.piece, a, b, was, is)
				}
				other := impl.Path{Ok: was.Ok, Far: was.Far, Steps: f.steps(was.Steps)}
				if !slices.Equal(impl.PathLies(f.is, other.Steps), was.Lies) {
					t.Fatalf("%q, piece %d, %v: other lies", tell(f.was), f.piece, was)
				}
				if got := impl.Stretch(f.is, other, f.spot(a)); !slices.Equal(got, f.parts(impl.Stretch(f.was, was, a))) {
					t.Fatalf("%q, piece %d, %v: %v", tell(f.was), f.piece, was, got)
				}
			}
			for far := range 15 {
				was, is := impl.Reach(f.was, a, far), impl.Reach(f.is, f.spot(a), far)
				if !slices.Equal(f.reach(was), is) {
					t.Fatalf("%q, piece %d, %v over %d: %v, then %v", tell(f.was), f.piece, a, far, was, is)
				}
			}
		}
	})
}

func TestLoopsOverAPieceLaidTheOtherWay(t *testing.T) {
	eachFlip(func(f flip) {
		lengths := map[impl.Step][2]int{}
		for _, steps := range impl.Loops(f.was) {
			lengths[f.steps(steps)[0]] = [2]int{len(steps), loopLength(f.was, steps)}
		}
		is := impl.Loops(f.is)
		if len(is) != len(lengths) {
			t.Fatalf("%q, piece %d: %v", tell(f.was), f.piece, is)
		}
		for _, steps := range is {
			if lengths[steps[0]] != [2]int{len(steps), loopLength(f.is, steps)} {
				t.Fatalf("%q, piece %d: %v", tell(f.was), f.piece, steps)
			}
		}
	})
}
