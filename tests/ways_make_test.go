package tests

import (
	"math/rand"
	"slices"
	"strconv"
	"strings"
	"testing"

	"loop.example/ballast/impl"
)

// legs is steps as a text: "0+ 3-" is piece 0 with Way 1, then piece 3 with Way -1.
func legs(text string) []impl.Step {
	all := []impl.Step{}
	for _, word := range strings.Fields(text) {
		number, err := strconv.Atoi(strings.TrimRight(word, "+-"))
		if err != nil {
			panic(err)
		}
		way := 1
		if strings.HasSuffix(word, "-") {
			way = -1
		}
		all = append(all, impl.Step{Piece: number, Way: way})
	}
	return all
}

// lays is how switches lie as a text: "2:1 4:2" is joint 2 left, then joint 4 right.
func lays(text string) []impl.Lie {
	all := []impl.Lie{}
	for _, word := range strings.Fields(text) {
		joint, how, _ := strings.Cut(word, ":")
		j, _ := strconv.Atoi(joint)
		h, _ := strconv.Atoi(how)
		all = append(all, impl.Lie{Joint: j, Lie: h})
	}
	return all
}

func path(far int, steps, lies string) impl.Path {
	return impl.Path{Ok: true, Far: far, Steps: legs(steps), Lies: lays(lies)}
}

func samePath(a, b impl.Path) bool {
	return a.Ok == b.Ok && a.Far == b.Far && slices.Equal(a.Steps, b.Steps) && slices.Equal(a.Lies, b.Lies)
}

func sameLoops(a, b [][]impl.Step) bool {
	return slices.EqualFunc(a, b, func(x, y []impl.Step) bool { return slices.Equal(x, y) })
}

// turning is a piece that leads to the tip of a switch whose left and right end are those of one piece: one comes back the other way.
func turning() impl.Net {
	return laid([]impl.Piece{piece("a", 5), piece("b", 9)}, buffer(end(0, 0)), fork("w", end(0, 1), end(1, 0), end(1, 1)))
}

// roundabout is a piece that leads into a ring of two, by a switch whose tip is in the ring.
//
//	0 leads to the left end of w, whose tip is 1; 1 leads to 2, and 2 to the right end of w
func roundabout() impl.Net {
	return laid([]impl.Piece{piece("a", 4), piece("b", 3), piece("c", 2)},
		buffer(end(0, 0)), fork("w", end(1, 0), end(0, 1), end(2, 1)), plain(end(1, 1), end(2, 0)))
}

// onward is the steps that can follow one, found in the joints themselves.
func onward(n impl.Net, s impl.Step) []impl.Step {
	from := end(s.Piece, (s.Way+1)/2)
	to := []impl.End{}
	for _, j := range n.Joints {
		place := slices.Index(j.Ends, from)
		if place < 0 {
			continue
		}
		switch e := j.Ends; {
		case j.Kind == impl.JPlain:
			to = []impl.End{e[1-place]}
		case j.Kind == impl.JCross:
			to = []impl.End{[]impl.End{e[1], e[0], e[3], e[2]}[place]}
		case j.Kind == impl.JSwitch && place == 0:
			to = e[1:]
		case j.Kind == impl.JSwitch:
			to = e[:1]
		}
	}
	all := []impl.Step{}
	for _, e := range to {
		all = append(all, impl.Step{Piece: e.Piece, Way: 1 - 2*e.Side})
	}
	return all
}

func stepOf(s impl.Spot) impl.Step { return impl.Step{Piece: s.Piece, Way: s.Way} }

// startOf is the spot at which one comes to a step.
func startOf(n impl.Net, s impl.Step) impl.Spot {
	if s.Way == 1 {
		return spot(s.Piece, 0, 1)
	}
	return spot(s.Piece, n.Pieces[s.Piece].Len, -1)
}

// rest is how far it is to the end to which a spot looks.
func rest(n impl.Net, s impl.Spot) int {
	if s.Way == 1 {
		return n.Pieces[s.Piece].Len - s.At
	}
	return s.At
}

// lessSteps is whether steps are less where they first part.
func lessSteps(a, b []impl.Step) bool {
	for i := range min(len(a), len(b)) {
		if a[i].Piece != b[i].Piece {
			return a[i].Piece < b[i].Piece
		}
		if a[i].Way != b[i].Way {
			return a[i].Way < b[i].Way
		}
	}
	return false
}

func better(a, b impl.Path) bool {
	if !a.Ok || !b.Ok {
		return a.Ok
	}
	if a.Far != b.Far {
		return a.Far < b.Far
	}
	if len(a.Steps) != len(b.Steps) {
		return len(a.Steps) < len(b.Steps)
	}
	return lessSteps(a.Steps, b.Steps)
}

// walkAll goes through all drives from a to b over one joint or more that come by no step twice, and keeps the best one.
func walkAll(n impl.Net, a, b impl.Spot) impl.Path {
	best := impl.Path{}
	steps := []impl.Step{stepOf(a)}
	var walk func(far int)
	walk = func(far int) {
		for _, next := range onward(n, steps[len(steps)-1]) {
			if slices.Contains(steps[1:], next) {
				continue
			}
			steps = append(steps, next)
			length := n.Pieces[next.Piece].Len
			if next == stepOf(b) {
				found := impl.Path{Ok: true, Far: far + length - rest(n, b), Steps: steps}
				if better(found, best) {
					found.Steps = slices.Clone(steps)
					best = found
				}
			} else {
				walk(far + length)
			}
			steps = steps[:len(steps)-1]
		}
	}
	walk(rest(n, a))
	return best
}

// walkTo is the best drive from a to b, found by going through all of them; its Lies are not told.
func walkTo(n impl.Net, a, b impl.Spot) impl.Path {
	best := walkAll(n, a, b)
	if along := (b.At - a.At) * a.Way; stepOf(a) == stepOf(b) && along >= 0 {
		if straight := (impl.Path{Ok: true, Far: along, Steps: []impl.Step{stepOf(a)}}); better(straight, best) {
			return straight
		}
	}
	return best
}

// wanted is how the switches of steps that follow one another have to lie, and whether that can be.
func wanted(n impl.Net, steps []impl.Step) ([]impl.Lie, bool) {
	all := []impl.Lie{}
	for i := 1; i < len(steps); i++ {
		from, to := end(steps[i-1].Piece, (1+steps[i-1].Way)/2), end(steps[i].Piece, (1-steps[i].Way)/2)
		for j, joint := range n.Joints {
			a, b := slices.Index(joint.Ends, from), slices.Index(joint.Ends, to)
			if joint.Kind != impl.JSwitch || a < 0 || b < 0 {
				continue
			}
			// One of the two is the tip, 0.
			now := impl.Lie{Joint: j, Lie: a + b}
			if slices.Contains(all, impl.Lie{Joint: j, Lie: 3 - now.Lie}) {
				return nil, false
			}
			if !slices.Contains(all, now) {
				all = append(all, now)
			}
		}
	}
	return all, true
}

// mazes is nets of so many pieces in which nearly all joints are switches, so that there are very many ways, and many as short as others.
func mazes(pieces, count int) []impl.Net {
	source := rand.New(rand.NewSource(int64(pieces)))
	all := []impl.Net{}
	for range count {
		b := &builder{}
		ends := []impl.End{}
		for p := range pieces {
			b.piece(1 + source.Intn(5))
			ends = append(ends, end(p, 0), end(p, 1))
		}
		source.Shuffle(len(ends), func(i, k int) { ends[i], ends[k] = ends[k], ends[i] })
		for ; len(ends) > 2; ends = ends[3:] {
			b.Joints = append(b.Joints, fork("s"+strconv.Itoa(len(b.Joints)), ends[0], ends[1], ends[2]))
		}
		for _, e := range ends {
			b.stop(e)
		}
		all = append(all, b.Net)
	}
	return all
}

// relax is the best drives from a spot over one joint or more to where each step begins, made better as long as one more step makes one better.
func relax(n impl.Net, a impl.Spot) map[impl.Step]impl.Path {
	best := map[impl.Step]impl.Path{}
	offer := func(p impl.Path, next impl.Step) bool {
		p.Steps = append(slices.Clone(p.Steps), next)
		if !better(p, best[next]) {
			return false
		}
		best[next] = p
		return true
	}
	first := impl.Path{Ok: true, Far: rest(n, a), Steps: []impl.Step{stepOf(a)}}
	for _, next := range onward(n, stepOf(a)) {
		offer(first, next)
	}
	for changed := true; changed; {
		changed = false
		for p := range n.Pieces {
			for _, way := range []int{1, -1} {
				s := impl.Step{Piece: p, Way: way}
				from := best[s]
				if !from.Ok {
					continue
				}
				from.Far += n.Pieces[p].Len
				for _, next := range onward(n, s) {
					changed = offer(from, next) || changed
				}
			}
		}
	}
	return best
}

// someSpots is spots at both ends of each piece of a net and one between them.
func someSpots(n impl.Net) []impl.Spot {
	all := []impl.Spot{}
	for p, one := range n.Pieces {
		places := []int{0, one.Len / 2, one.Len}
		for _, at := range slices.Compact(places) {
			all = append(all, spot(p, at, 1), spot(p, at, -1))
		}
	}
	return all
}

// wayNets is nets that are small enough for going through all of their ways.
func wayNets() []impl.Net {
	all := append(knots(), smallYard(), turning(), roundabout(), shuttle(piece("a", 2)))
	return append(all, anyNets(40)...)
}

// eachPair goes through the nets with a shortest way between every two of their spots.
func eachPair(see func(n impl.Net, a, b impl.Spot, p impl.Path)) {
	for _, n := range wayNets() {
		for _, a := range someSpots(n) {
			for _, b := range someSpots(n) {
				see(n, a, b, impl.Shortest(n, a, b))
			}
		}
	}
}

// brokenNets is the yard with each of its faults.
func brokenNets() []impl.Net {
	all := []impl.Net{{}}
	for _, c := range faults() {
		n := yard()
		c.spoil(&n)
		all = append(all, n)
	}
	return all
}

func holdLies(t *testing.T, n impl.Net, steps, want string) {
	t.Helper()
	if got := impl.PathLies(n, legs(steps)); !slices.Equal(got, lays(want)) {
		t.Errorf("%s: %v, not %s", steps, got, want)
	}
}
