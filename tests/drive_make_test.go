package tests

import (
	"math/rand"
	"slices"
	"strconv"
	"testing"

	"loop.example/ballast/impl"
)

func spot(piece, at, way int) impl.Spot { return impl.Spot{Piece: piece, At: at, Way: way} }

func part(piece, from, to int) impl.Part { return impl.Part{Piece: piece, From: from, To: to} }

// came is a drive that was not ended early.
func came(far int, s impl.Spot) impl.Driven { return impl.Driven{Far: far, Joint: -1, Spot: s} }

// ended is a drive that a joint ended.
func ended(code, far, joint int, s impl.Spot) impl.Driven {
	return impl.Driven{Code: code, Far: far, Joint: joint, Spot: s}
}

type ride struct {
	what string
	lies []int
	s    impl.Spot
	far  int
	want impl.Driven
}

func holdRides(t *testing.T, n impl.Net, rides []ride) {
	t.Helper()
	for _, r := range rides {
		if got := impl.Drive(n, r.lies, r.s, r.far); got != r.want {
			t.Errorf("%s: %v, not %v", r.what, got, r.want)
		}
	}
}

func laid(pieces []impl.Piece, joints ...impl.Joint) impl.Net {
	return impl.Net{Pieces: pieces, Joints: joints}
}

// ring is one piece whose two ends meet at a plain joint.
func ring(length int) impl.Net {
	return laid([]impl.Piece{piece("a", length)}, plain(end(0, 1), end(0, 0)))
}

// smallYard is the yard with pieces so short that every drive on it can be gone through.
func smallYard() impl.Net {
	n := yard()
	for p := range n.Pieces {
		n.Pieces[p].Len = 1 + p%3
	}
	return n
}

// knots are nets with a piece whose two ends meet at one joint, of every kind and in every order.
func knots() []impl.Net {
	two := []impl.Piece{piece("a", 3), piece("b", 2)}
	all := []impl.Net{ring(1), ring(4), laid(two[:1], plain(end(0, 0), end(0, 1)))}
	ends := []impl.End{end(0, 0), end(0, 1), end(1, 0), end(1, 1)}
	for first := range 4 {
		for second := range 4 {
			for third := range 4 {
				rest := 6 - first - second - third
				if first == second || second == third || first == third {
					continue
				}
				a, b, c, d := ends[first], ends[second], ends[third], ends[rest]
				all = append(all, laid(two, fork("w", a, b, c), buffer(d)), laid(two, crossing("x", a, b, c, d)))
			}
		}
	}
	return all
}

// anyNets are nets with joints of every kind at ends in any order.
func anyNets(count int) []impl.Net {
	source := rand.New(rand.NewSource(3))
	all := []impl.Net{}
	for range count {
		n := impl.Net{}
		ends := []impl.End{}
		for p := range 1 + source.Intn(6) {
			n.Pieces = append(n.Pieces, piece("p"+strconv.Itoa(p), 1+source.Intn(4)))
			ends = append(ends, end(p, 0), end(p, 1))
		}
		source.Shuffle(len(ends), func(i, k int) { ends[i], ends[k] = ends[k], ends[i] })
		for len(ends) > 0 {
			kind := min(1+source.Intn(4), len(ends))
			j := impl.Joint{Kind: kind, Ends: slices.Clone(ends[:kind])}
			if kind > 2 {
				j.Name = "j" + strconv.Itoa(len(n.Joints))
			}
			n.Joints = append(n.Joints, j)
			ends = ends[kind:]
		}
		all = append(all, n)
	}
	return all
}

func smallNets() []impl.Net {
	all := append(knots(), smallYard(), shuttle(piece("a", 1)), shuttle(piece("a", 5)))
	return append(all, anyNets(60)...)
}

// allLies is every way in which the switches of a net can lie.
func allLies(n impl.Net) [][]int {
	all := [][]int{make([]int, len(n.Joints))}
	for j, joint := range n.Joints {
		if joint.Kind != impl.JSwitch {
			continue
		}
		for _, lies := range slices.Clone(all) {
			for lie := 1; lie < 3; lie++ {
				other := slices.Clone(lies)
				other[j] = lie
				all = append(all, other)
			}
		}
	}
	return all
}

// allSpots is every spot of a net.
func allSpots(n impl.Net) []impl.Spot {
	all := []impl.Spot{}
	for p, one := range n.Pieces {
		for at := range one.Len + 1 {
			all = append(all, spot(p, at, 1), spot(p, at, -1))
		}
	}
	return all
}

// eachDrive goes through the small nets with all their lies and spots.
func eachDrive(see func(n impl.Net, lies []int, s impl.Spot)) {
	for _, n := range smallNets() {
		for _, lies := range allLies(n) {
			for _, s := range allSpots(n) {
				see(n, lies, s)
			}
		}
	}
}

func atItsEnd(n impl.Net, s impl.Spot) bool {
	return s.Way == 1 && s.At == n.Pieces[s.Piece].Len || s.Way == -1 && s.At == 0
}

// creep drives one by one, and looks for itself into the joints.
func creep(n impl.Net, lies []int, s impl.Spot, far int) (impl.Driven, []impl.Part) {
	parts := []impl.Part{}
	over := 0
	for done := range far {
		fresh := done == 0
		if atItsEnd(n, s) {
			joint, to, code := step(n, lies, s)
			if code == 0 && over == 1000 {
				code = 5
			}
			if code != 0 {
				return ended(code, done, joint, s), parts
			}
			over++
			fresh = true
			s = spot(to.Piece, 0, 1)
			if to.Side == 1 {
				s = spot(to.Piece, n.Pieces[to.Piece].Len, -1)
			}
		}
		if fresh {
			parts = append(parts, part(s.Piece, s.At, s.At))
		}
		s.At += s.Way
		last := &parts[len(parts)-1]
		last.From, last.To = min(last.From, s.At), max(last.To, s.At)
	}
	return came(far, s), parts
}

// step is the joint at the end to which a spot looks, the end behind it, and the code when there is none.
func step(n impl.Net, lies []int, s impl.Spot) (joint int, to impl.End, code int) {
	from := end(s.Piece, (s.Way+1)/2)
	for j, one := range n.Joints {
		place := slices.Index(one.Ends, from)
		if place < 0 {
			continue
		}
		switch e := one.Ends; one.Kind {
		case impl.JEnd:
			return j, impl.End{}, 1
		case impl.JPlain:
			return j, []impl.End{e[1], e[0]}[place], 0
		case impl.JCross:
			return j, []impl.End{e[1], e[0], e[3], e[2]}[place], 0
		}
		if lies[j] == 0 {
			return j, impl.End{}, 2
		}
		if place == 0 {
			return j, one.Ends[lies[j]], 0
		}
		if place != lies[j] {
			return j, impl.End{}, 3
		}
		return j, one.Ends[0], 0
	}
	return -1, impl.End{}, -1
}
