package tests

import (
	"math"
	"slices"
	"testing"

	"loop.example/ballast/impl"
)

func holdStretch(t *testing.T, what string, n impl.Net, p impl.Path, a impl.Spot, want ...impl.Part) {
	t.Helper()
	if got := impl.Stretch(n, p, a); !slices.Equal(got, want) {
		t.Errorf("%s: %v, not %v", what, got, want)
	}
}

func TestStretchOfWhatShortestTold(t *testing.T) {
	for _, c := range []struct {
		what string
		a, b impl.Spot
		want []impl.Part
	}{
		{"within a piece", spot(0, 40, 1), spot(0, 47, 1), []impl.Part{part(0, 40, 47)}},
		{"within a piece, the other way", spot(0, 40, -1), spot(0, 33, -1), []impl.Part{part(0, 33, 40)}},
		{"nowhere", spot(0, 40, 1), spot(0, 40, 1), []impl.Part{part(0, 40, 40)}},
		{"nowhere, at an end", spot(0, 0, -1), spot(0, 0, -1), []impl.Part{part(0, 0, 0)}},
		{"over a joint", spot(0, 40, 1), spot(1, 5, 1), []impl.Part{part(0, 40, 100), part(1, 0, 5)}},
		{"over a joint, the other way", spot(1, 5, -1), spot(0, 40, -1), []impl.Part{part(1, 0, 5), part(0, 40, 100)}},
		{"to just behind a joint", spot(0, 40, 1), spot(1, 0, 1), []impl.Part{part(0, 40, 100), part(1, 0, 0)}},
		{"to just behind a joint, the other way", spot(1, 5, -1), spot(0, 100, -1), []impl.Part{part(1, 0, 5), part(0, 100, 100)}},
		{"from just ahead of a joint", spot(0, 100, 1), spot(1, 5, 1), []impl.Part{part(0, 100, 100), part(1, 0, 5)}},
		{"from just ahead of a joint to just behind it", spot(0, 100, 1), spot(1, 0, 1), []impl.Part{part(0, 100, 100), part(1, 0, 0)}},
		{"all of it", spot(0, 0, 1), spot(6, 70, 1), []impl.Part{part(0, 0, 100), part(1, 0, 20), part(2, 0, 30), part(4, 0, 50), part(6, 0, 70)}},
		{"all of it back", spot(6, 70, -1), spot(0, 0, -1), []impl.Part{part(6, 0, 70), part(4, 0, 50), part(2, 0, 30), part(1, 0, 20), part(0, 0, 100)}},
	} {
		holdStretch(t, c.what, yard(), impl.Shortest(yard(), c.a, c.b), c.a, c.want...)
	}
	round := impl.Shortest(ring(9), spot(0, 6, 1), spot(0, 4, 1))
	holdStretch(t, "round to the own piece", ring(9), round, spot(0, 6, 1), part(0, 6, 9), part(0, 0, 4))
	long := shuttle(piece("a", impl.MaxLen))
	holdStretch(t, "as far as may be", long, impl.Shortest(long, spot(0, 7, 1), spot(0, 1000007, 1)), spot(0, 7, 1), part(0, 7, 1000007))
	holdStretch(t, "one more", long, impl.Shortest(long, spot(0, 7, 1), spot(0, 1000008, 1)), spot(0, 7, 1))
}

// What a path says of lies is not asked: its steps tell how switches lie.
func TestStretchDoesNotAskForLies(t *testing.T) {
	for _, lies := range []string{"", "2:2", "2:1", "99:7"} {
		holdStretch(t, lies, yard(), path(15, "1+ 2+", lies), spot(1, 10, 1), part(1, 10, 20), part(2, 0, 5))
	}
}

func TestStretchOfMoreStepsThanItNeeds(t *testing.T) {
	all := []impl.Part{part(0, 40, 100), part(1, 0, 20), part(2, 0, 30), part(4, 0, 50), part(6, 0, 70)}
	into := []int{60, 20, 30, 50, 70}
	empty := []impl.Part{part(0, 40, 40), part(1, 0, 0), part(2, 0, 0), part(4, 0, 0), part(6, 0, 0)}
	for far := range 231 {
		want := slices.Clone(empty)
		left := far
		for i := range want {
			length := min(left, into[i])
			want[i].To += length
			left -= length
		}
		holdStretch(t, "along", yard(), path(far, "0+ 1+ 2+ 4+ 6+", ""), spot(0, 40, 1), want...)
	}
	holdStretch(t, "just as far as they are long", yard(), path(230, "0+ 1+ 2+ 4+ 6+", ""), spot(0, 40, 1), all...)
	holdStretch(t, "one more", yard(), path(231, "0+ 1+ 2+ 4+ 6+", ""), spot(0, 40, 1))
	holdStretch(t, "back, nowhere", yard(), path(0, "6- 5- 3-", ""), spot(6, 20, -1), part(6, 20, 20), part(5, 60, 60), part(3, 40, 40))
	holdStretch(t, "back, within the second", yard(), path(25, "6- 5- 3-", ""), spot(6, 20, -1), part(6, 0, 20), part(5, 55, 60), part(3, 40, 40))
	holdStretch(t, "back, just to the end of the second", yard(), path(80, "6- 5- 3-", ""), spot(6, 20, -1), part(6, 0, 20), part(5, 0, 60), part(3, 40, 40))
	holdStretch(t, "back, just as far as they are long", yard(), path(120, "6- 5- 3-", ""), spot(6, 20, -1), part(6, 0, 20), part(5, 0, 60), part(3, 0, 40))
	holdStretch(t, "back, one more", yard(), path(121, "6- 5- 3-", ""), spot(6, 20, -1))
	holdStretch(t, "one step, just as far", yard(), path(60, "0+", ""), spot(0, 40, 1), part(0, 40, 100))
	holdStretch(t, "one step, one more", yard(), path(61, "0+", ""), spot(0, 40, 1))
	holdStretch(t, "one step from the end, nowhere", yard(), path(0, "0+", ""), spot(0, 100, 1), part(0, 100, 100))
	holdStretch(t, "one step from the end, one more", yard(), path(1, "0+", ""), spot(0, 100, 1))
}

func TestStretchOfWhatIsNoPath(t *testing.T) {
	a := spot(0, 40, 1)
	notOk := path(65, "0+ 1+", "")
	notOk.Ok = false
	holdStretch(t, "right", yard(), path(65, "0+ 1+", ""), a, part(0, 40, 100), part(1, 0, 5))
	holdStretch(t, "Ok is false", yard(), notOk, a)
	holdStretch(t, "the zero value", yard(), impl.Path{}, a)
	holdStretch(t, "no steps", yard(), path(0, "", ""), a)
	holdStretch(t, "no steps, and some way", yard(), path(5, "", ""), a)
	holdStretch(t, "another piece first", yard(), path(5, "1+ 2+", ""), a)
	holdStretch(t, "another way first", yard(), path(5, "0-", ""), a)
	holdStretch(t, "another way first, from where one looks the other way", yard(), path(5, "0+ 1+", ""), spot(0, 40, -1))
	holdStretch(t, "they do not follow", yard(), path(5, "0+ 2+", ""), a)
	holdStretch(t, "the last one does not follow", yard(), path(5, "0+ 1+ 2+ 3+", ""), a)
	holdStretch(t, "they do not follow, though not needed", yard(), path(0, "0+ 1-", ""), a)
	holdStretch(t, "a piece that is none", yard(), path(5, "0+ 7+", ""), a)
	holdStretch(t, "a way that is none", yard(), impl.Path{Ok: true, Far: 5, Steps: []impl.Step{{Piece: 0, Way: 1}, {Piece: 1, Way: 0}}}, a)
	holdStretch(t, "a switch in two ways", turning(), path(5, "0+ 1- 0-", ""), spot(0, 2, 1))
	holdStretch(t, "a switch in two ways, as Shortest tells it", turning(), impl.Shortest(turning(), spot(0, 2, 1), spot(0, 2, -1)), spot(0, 2, 1))
	holdStretch(t, "a switch in two ways, behind what is needed", roundabout(), path(1, "0+ 1+ 2+ 1+", ""), spot(0, 2, 1))
	holdStretch(t, "a switch twice in one way", roundabout(), path(6, "1+ 2+ 1+ 2+ 1+", ""), spot(1, 2, 1),
		part(1, 2, 3), part(2, 0, 2), part(1, 0, 3), part(2, 0, 0), part(1, 0, 0))
	for _, far := range []int{-1, math.MinInt, impl.MaxFar + 1, math.MaxInt} {
		holdStretch(t, "far", shuttle(piece("a", impl.MaxLen)), path(far, "0+", ""), spot(0, 40, 1))
		holdStretch(t, "far", ring(5), path(far, "0+ 0+", ""), spot(0, 5, 1))
	}
	for _, s := range noSpots() {
		p := impl.Path{Ok: true, Steps: []impl.Step{stepOf(s)}}
		holdStretch(t, "no spot", yard(), p, s)
		holdStretch(t, "no spot", yard(), path(0, "0+", ""), s)
	}
	for _, n := range brokenNets() {
		holdStretch(t, "a net that is not right", n, path(65, "0+ 1+", ""), a)
		holdStretch(t, "a net that is not right", n, path(0, "0+", ""), a)
	}
}

func TestStretchOfAsManyStepsAsMayBe(t *testing.T) {
	n := roundabout()
	for _, many := range []int{1, 2, 399, 400, 401, 402} {
		p := impl.Path{Ok: true, Far: 1, Steps: slices.Repeat(legs("1+ 2+"), 201)[:many]}
		got := impl.Stretch(n, p, spot(1, 0, 1))
		if many > 400 {
			if len(got) != 0 {
				t.Errorf("%d steps: %d parts", many, len(got))
			}
			continue
		}
		if len(got) != many || impl.PartsLen(got) != 1 {
			t.Errorf("%d steps: %d parts, %d long", many, len(got), impl.PartsLen(got))
		}
		// All of them, and one more.
		p.Far = 5*(many/2) + 3*(many%2)
		if got := impl.Stretch(n, p, spot(1, 0, 1)); impl.PartsLen(got) != p.Far {
			t.Errorf("%d steps: %d long, not %d", many, impl.PartsLen(got), p.Far)
		}
		p.Far++
		holdStretch(t, "longer than they are", n, p, spot(1, 0, 1))
	}
}

func TestStretchIsAsLongAsThePath(t *testing.T) {
	eachPair(func(n impl.Net, a, b impl.Spot, p impl.Path) {
		got := impl.Stretch(n, p, a)
		if _, can := wanted(n, p.Steps); !p.Ok || !can {
			if len(got) != 0 {
				t.Fatalf("%q, %v by %v: %v", tell(n), a, p, got)
			}
			return
		}
		if len(got) != len(p.Steps) || impl.PartsLen(got) != p.Far {
			t.Fatalf("%q, %v by %v: %v", tell(n), a, p, got)
		}
		for i, one := range got {
			if one.Piece != p.Steps[i].Piece {
				t.Fatalf("%q, %v by %v: %v", tell(n), a, p, got)
			}
		}
		// But for the empty ones they are what is driven over.
		driven := slices.DeleteFunc(slices.Clone(got), func(one impl.Part) bool { return one.From == one.To })
		if ahead := impl.Ahead(n, liesOf(n, p), a, p.Far); !slices.Equal(driven, ahead) {
			t.Fatalf("%q, %v by %v: %v, driven %v", tell(n), a, p, got, ahead)
		}
	})
}
