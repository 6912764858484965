package tests

import (
	"slices"
	"testing"

	"loop.example/ballast/impl"
)

// scribble fills a list up to its capacity, so that whatever shares its memory shows it.
func scribble[T any](list []T, with T) {
	list = list[:cap(list)]
	for i := range list {
		list[i] = with
	}
}

func scribblePath(p impl.Path) {
	scribble(p.Steps, impl.Step{Piece: -7, Way: -7})
	scribble(p.Lies, impl.Lie{Joint: -7, Lie: -7})
}

// roomyPath is a path whose lists have room behind them, filled, and the whole lists.
func roomyPath(p impl.Path) (short, whole impl.Path) {
	whole = p
	whole.Steps = append(slices.Clone(p.Steps), legs("7+ 8-")...)
	whole.Lies = append(slices.Clone(p.Lies), lays("7:1 8:2")...)
	short = p
	short.Steps, short.Lies = whole.Steps[:len(p.Steps)], whole.Lies[:len(p.Lies)]
	return short, whole
}

func clonePath(p impl.Path) impl.Path {
	p.Steps, p.Lies = slices.Clone(p.Steps), slices.Clone(p.Lies)
	return p
}

func somePaths() []impl.Path {
	bad := path(65, "0+ 1+", "")
	bad.Ok = false
	return []impl.Path{
		path(230, "0+ 1+ 2+ 4+ 6+", "2:1 4:1"), path(65, "0+ 1+", ""), path(0, "0+", ""), path(0, "", ""),
		path(9999, "0+ 1+", ""), path(5, "0+ 2+", ""), path(-1, "0+", ""), path(5, "0+ 9+", ""), bad,
	}
}

func TestWaysLeaveArgumentsAsTheyWere(t *testing.T) {
	nets := append(brokenNets(), yard(), smallYard())
	for _, n := range nets {
		short, whole := roomy(n)
		shortWas, wholeWas := tell(short), tell(whole)
		for _, s := range []impl.Spot{spot(0, 40, 1), spot(6, 70, -1), spot(0, 0, 1), spot(9, 9, 9)} {
			for _, far := range []int{-1, 0, 81, 270} {
				impl.Reach(short, s, far)
			}
			impl.Shortest(short, s, spot(6, 1, 1))
			impl.Shortest(short, spot(6, 1, -1), s)
			for _, p := range somePaths() {
				some, all := roomyPath(p)
				was := clonePath(all)
				impl.PathLies(short, some.Steps)
				impl.Stretch(short, some, s)
				if !samePath(all, was) {
					t.Errorf("%v: written into", p)
				}
			}
		}
		impl.Loops(short)
		if tell(short) != shortWas || tell(whole) != wholeWas {
			t.Errorf("%q: the net was written into", shortWas)
		}
	}
}

// wayAnswers is an answer of each function of the chapter, with lists that are not empty.
type wayAnswers struct {
	path  impl.Path
	reach []impl.Spot
	loops [][]impl.Step
	lies  []impl.Lie
	parts []impl.Part
}

func askWays(n impl.Net, p impl.Path) wayAnswers {
	return wayAnswers{
		path:  impl.Shortest(n, spot(0, 1, 1), spot(2, 1, 1)),
		reach: impl.Reach(n, spot(1, 1, -1), 3),
		loops: impl.Loops(n),
		lies:  impl.PathLies(n, p.Steps),
		parts: impl.Stretch(n, p, spot(0, 1, 1)),
	}
}

func (a wayAnswers) same(b wayAnswers) bool {
	return samePath(a.path, b.path) && slices.Equal(a.reach, b.reach) && sameLoops(a.loops, b.loops) && slices.Equal(a.lies, b.lies) && slices.Equal(a.parts, b.parts)
}

func (a wayAnswers) scribble() {
	scribblePath(a.path)
	scribble(a.reach, spot(-7, -7, -7))
	for _, one := range a.loops {
		scribble(one, impl.Step{Piece: -7, Way: -7})
	}
	scribble(a.loops, nil)
	scribble(a.lies, impl.Lie{Joint: -7, Lie: -7})
	scribble(a.parts, part(-7, -7, -7))
}

func TestWaysShareNoMemory(t *testing.T) {
	short, whole := roomy(roundabout())
	shortWas, wholeWas := tell(short), tell(whole)
	some, all := roomyPath(path(7, "0+ 1+ 2+", "1:1"))
	allWas := clonePath(all)
	first, second := askWays(short, some), askWays(short, some)
	if !first.path.Ok || len(first.path.Lies) != 1 || len(first.reach) != 2 || len(first.loops) != 4 || len(first.lies) != 1 || len(first.parts) != 3 {
		t.Fatal(first)
	}
	if !first.same(second) {
		t.Fatal(first, second)
	}
	first.scribble()
	if tell(short) != shortWas || tell(whole) != wholeWas {
		t.Error("an answer shares memory with the net")
	}
	if !samePath(all, allWas) {
		t.Error("an answer shares memory with the path")
	}
	if third := askWays(short, some); !third.same(second) {
		t.Error("an answer is kept, or two share memory")
	}
	// And the other way round: what is told stays when the arguments change.
	kept := askWays(short, some)
	scribblePath(some)
	for _, j := range short.Joints {
		scribble(j.Ends, end(-7, -7))
	}
	scribble(short.Pieces, impl.Piece{})
	if !kept.same(second) {
		t.Error("an answer changes with the arguments")
	}
}

func TestListsOfOneAnswerShareNoMemory(t *testing.T) {
	for _, n := range []impl.Net{roundabout(), ring(3), tangle(), between([]int{2}, []int{2}), ringBy([]int{3, 2}, []int{5})} {
		was := impl.Loops(n)
		got := impl.Loops(n)
		for i := range got {
			scribble(got[i], impl.Step{Piece: -7, Way: -7})
			for k := i + 1; k < len(got); k++ {
				if !slices.Equal(got[k], was[k]) {
					t.Fatalf("%q: loops %d and %d share memory", tell(n), i, k)
				}
			}
		}
	}
}

// tied is a net full of ways that are as short: again and again a switch to two pieces of one length, the less one on the right.
func tied() impl.Net {
	b := &builder{}
	from := b.piece(3)
	b.stop(end(from, 0))
	for range 20 {
		left, right, to := b.piece(2), b.piece(2), b.piece(1)
		b.fork(from, right, left)
		b.merge(to, left, right)
		from = to
	}
	b.stop(end(from, 1))
	return b.Net
}

func TestSameWaysSameAnswer(t *testing.T) {
	for _, n := range []impl.Net{tied(), tangle(), roundabout()} {
		last := len(n.Pieces) - 1
		pairs := [][2]impl.Spot{{spot(0, 0, 1), spot(last, 1, 1)}, {spot(last, 1, -1), spot(0, 0, -1)}, {spot(1, 1, 1), spot(2, 1, 1)}, {spot(2, 0, -1), spot(1, 1, -1)}}
		loops := impl.Loops(n)
		for range 5 {
			if !sameLoops(impl.Loops(n), loops) {
				t.Fatalf("%q: other loops", tell(n))
			}
		}
		for _, pair := range pairs {
			a, b := pair[0], pair[1]
			p, reach := impl.Shortest(n, a, b), impl.Reach(n, a, 40)
			lies, parts := impl.PathLies(n, p.Steps), impl.Stretch(n, p, a)
			for range 20 {
				impl.Shortest(yard(), spot(0, 0, 1), spot(6, 1, 1))
				impl.Reach(yard(), spot(0, 0, 1), 150)
				if !samePath(impl.Shortest(n, a, b), p) || !slices.Equal(impl.Reach(n, a, 40), reach) {
					t.Fatalf("%q, %v to %v: another answer", tell(n), a, b)
				}
				if !slices.Equal(impl.PathLies(n, p.Steps), lies) || !slices.Equal(impl.Stretch(n, p, a), parts) {
					t.Fatalf("%q, %v to %v: another answer", tell(n), a, b)
				}
			}
		}
	}
}

// Of a million ways that are as short the one with the less pieces, here always the one on the right.
func TestShortestOfVeryManyWays(t *testing.T) {
	p := impl.Shortest(tied(), spot(0, 0, 1), spot(60, 1, 1))
	if !p.Ok || p.Far != 3+20*3 || len(p.Steps) != 41 || len(p.Lies) != 40 {
		t.Fatal(p)
	}
	for i, s := range p.Steps {
		if i%2 == 1 && s.Piece != 1+3*(i/2) {
			t.Errorf("step %d is %v", i, s)
		}
	}
	for i, l := range p.Lies {
		// By turns a switch from its tip to the right, and one from its left end.
		if want := (impl.Lie{Joint: i + 1, Lie: 2 - i%2}); l != want {
			t.Errorf("%v, not %v", l, want)
		}
	}
}

func TestLimitOfSpotsIsTheDocuments(t *testing.T) {
	if impl.MaxFound != 200 || impl.MaxFar != 1000000 || impl.MaxOver != 1000 {
		t.Error(impl.MaxFound, impl.MaxFar, impl.MaxOver)
	}
}
