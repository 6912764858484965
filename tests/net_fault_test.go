package tests

import (
	"math"
	"strconv"
	"strings"
	"testing"

	"loop.example/ballast/impl"
)

func fault(code, at int) impl.Fault { return impl.Fault{Code: code, At: at} }

type spoilt struct {
	what  string
	spoil func(n *impl.Net)
	want  impl.Fault
}

// hold spoils a new yard by each case, and asks for its fault.
func hold(t *testing.T, cases []spoilt) {
	t.Helper()
	for _, c := range cases {
		n := yard()
		c.spoil(&n)
		if got := impl.NetOk(n); got != c.want {
			t.Errorf("%s: %v, not %v", c.what, got, c.want)
		}
	}
}

func TestRightNets(t *testing.T) {
	for what, n := range map[string]impl.Net{
		"every kind of joint":              yard(),
		"one piece between buffers":        shuttle(piece("a", 1)),
		"a ring":                           {Pieces: []impl.Piece{piece("a", 9)}, Joints: []impl.Joint{plain(end(0, 1), end(0, 0))}},
		"a switch back to its own piece":   {Pieces: []impl.Piece{piece("a", 9), piece("b", 9)}, Joints: []impl.Joint{fork("w", end(0, 0), end(1, 0), end(1, 1)), buffer(end(0, 1))}},
		"a crossing of two pieces":         {Pieces: []impl.Piece{piece("a", 9), piece("b", 9)}, Joints: []impl.Joint{crossing("x", end(0, 0), end(0, 1), end(1, 1), end(1, 0))}},
		"a joint with the name of a piece": {Pieces: []impl.Piece{piece("w", 9), piece("b", 9)}, Joints: []impl.Joint{fork("w", end(0, 0), end(1, 0), end(1, 1)), buffer(end(0, 1))}},
	} {
		if got := impl.NetOk(n); got != (impl.Fault{}) {
			t.Errorf("%s: %v", what, got)
		}
	}
}

func TestFaultOfSize(t *testing.T) {
	for _, c := range []struct {
		what string
		n    impl.Net
		want impl.Fault
	}{
		{"nothing", impl.Net{}, fault(1, 0)},
		{"empty lists", impl.Net{Pieces: []impl.Piece{}, Joints: []impl.Joint{}}, fault(1, 0)},
		{"joints alone", impl.Net{Joints: yard().Joints}, fault(1, 0)},
		{"all the pieces there may be", chains(100, 110), fault(0, 0)},
		{"a piece too many", chains(101, 110), fault(1, 0)},
		{"all the joints there may be", chains(100, 120), fault(0, 0)},
		{"a joint too many", chains(100, 121), fault(1, 0)},
		{"all the joints there may be, buffers alone", chains(60, 120), fault(0, 0)},
		{"a joint too many at fewer pieces", chains(61, 121), fault(1, 0)},
		{"pieces and no joints", impl.Net{Pieces: yard().Pieces}, fault(5, 0)},
	} {
		if got := impl.NetOk(c.n); got != c.want {
			t.Errorf("%s: %v, not %v", c.what, got, c.want)
		}
	}
}

func TestLimitsAreTheDocuments(t *testing.T) {
	got := []int{impl.MaxPieces, impl.MaxJoints, impl.MaxName, impl.MaxLen, impl.MaxSpeed, impl.MaxBrake, impl.JEnd, impl.JPlain, impl.JSwitch, impl.JCross}
	for i, want := range []int{100, 120, 20, 10000000, 10000, 1000, 1, 2, 3, 4} {
		if got[i] != want {
			t.Errorf("constant %d is %d, not %d", i, got[i], want)
		}
	}
}

func TestNumbersOfAPiece(t *testing.T) {
	for _, c := range []struct {
		what  string
		field func(p *impl.Piece) *int
		most  int
	}{
		{"Len", func(p *impl.Piece) *int { return &p.Len }, 10000000},
		{"Speed", func(p *impl.Piece) *int { return &p.Speed }, 10000},
		{"Brake", func(p *impl.Piece) *int { return &p.Brake }, 1000},
	} {
		for _, right := range []int{1, 2, c.most - 1, c.most} {
			n := yard()
			*c.field(&n.Pieces[3]) = right
			if got := impl.NetOk(n); got != (impl.Fault{}) {
				t.Errorf("%s %d: %v", c.what, right, got)
			}
		}
		for _, wrong := range []int{math.MinInt, -1, 0, c.most + 1, math.MaxInt} {
			for p := range yard().Pieces {
				n := yard()
				*c.field(&n.Pieces[p]) = wrong
				if got := impl.NetOk(n); got != fault(2, p) {
					t.Errorf("%s %d of piece %d: %v", c.what, wrong, p, got)
				}
			}
		}
	}
}

// names are texts, and whether each of them is a name.
func names() map[string]bool {
	m := map[string]bool{
		"":                       false,
		"q":                      true,
		"_":                      true,
		"0":                      true,
		"9z_":                    true,
		strings.Repeat("q", 19):  true,
		strings.Repeat("q", 20):  true,
		strings.Repeat("q", 21):  false,
		strings.Repeat("é", 10):  false,
		strings.Repeat("q", 999): false,
	}
	for b := range 256 {
		one := string([]byte{byte(b)})
		right := strings.Contains("abcdefghijklmnopqrstuvwxyz0123456789_", one)
		m[one+"_1"] = right
		m["q_"+one+"_1"] = right
		m["q_2"+one] = right
	}
	return m
}

func TestNamesOfPieces(t *testing.T) {
	for name, right := range names() {
		n := yard()
		n.Pieces[4].Name = name
		want := fault(2, 4)
		if right {
			want = fault(0, 0)
		}
		if got := impl.NetOk(n); got != want {
			t.Errorf("%q: %v, not %v", name, got, want)
		}
	}
	hold(t, []spoilt{
		{"that of the piece just ahead", func(n *impl.Net) { n.Pieces[1].Name = "a" }, fault(2, 1)},
		{"that of a piece far ahead", func(n *impl.Net) { n.Pieces[6].Name = "a" }, fault(2, 6)},
		{"that of a piece behind: told at the one behind", func(n *impl.Net) { n.Pieces[0].Name = "e" }, fault(2, 4)},
		{"two twins: told at the first", func(n *impl.Net) { n.Pieces[5].Name, n.Pieces[3].Name = "a", "c" }, fault(2, 3)},
	})
}

func TestFaultOfKindAndEnds(t *testing.T) {
	for j, joint := range yard().Joints {
		for _, k := range []int{math.MinInt, -1, 0, 1, 2, 3, 4, 5, math.MaxInt} {
			n := yard()
			n.Joints[j].Kind = k
			if got := impl.NetOk(n); k != joint.Kind && got != fault(3, j) {
				t.Errorf("joint %d with kind %d: %v", j, k, got)
			}
		}
		for count := range 9 {
			n := yard()
			n.Joints[j].Ends = append(append([]impl.End{}, joint.Ends...), joint.Ends...)
			n.Joints[j].Ends = append(n.Joints[j].Ends, make([]impl.End, 9)...)[:count]
			if got := impl.NetOk(n); count != len(joint.Ends) && got != fault(3, j) {
				t.Errorf("joint %d with %d ends: %v", j, count, got)
			}
		}
		for i := range joint.Ends {
			for _, e := range noEnds() {
				n := yard()
				n.Joints[j].Ends[i] = e
				if got := impl.NetOk(n); got != fault(3, j) {
					t.Errorf("joint %d with %v at %d: %v", j, e, i, got)
				}
			}
		}
	}
}

// noEnds are ends that the yard does not have.
func noEnds() []impl.End {
	return []impl.End{
		end(-1, 0), end(-1, 1), end(7, 0), end(7, 1), end(100, 0),
		end(0, -1), end(0, 2), end(6, -1), end(6, 2), end(3, 3),
		end(math.MinInt, 0), end(math.MaxInt, 1), end(2, math.MinInt), end(2, math.MaxInt), end(-1, -1), end(7, 2),
	}
}

func TestNamesOfJoints(t *testing.T) {
	for name, right := range names() {
		for j, joint := range yard().Joints {
			n := yard()
			n.Joints[j].Name = name
			named := joint.Kind == impl.JSwitch || joint.Kind == impl.JCross
			want := fault(4, j)
			if named && right || !named && name == "" {
				want = fault(0, 0)
			}
			if got := impl.NetOk(n); got != want {
				t.Errorf("joint %d, %q: %v, not %v", j, name, got, want)
			}
		}
	}
	hold(t, []spoilt{
		{"a switch with that of a switch ahead", func(n *impl.Net) { n.Joints[4].Name = "w" }, fault(4, 4)},
		{"a switch with that of a crossing ahead", func(n *impl.Net) { n.Joints[4].Name = "x" }, fault(4, 4)},
		{"a crossing with that of a switch ahead", func(n *impl.Net) { n.Joints[3].Name = "w" }, fault(4, 3)},
		{"that of a joint behind: told at the one behind", func(n *impl.Net) { n.Joints[2].Name = "v" }, fault(4, 4)},
		{"a buffer with that of a switch ahead", func(n *impl.Net) { n.Joints[5].Name = "w" }, fault(4, 5)},
		{"a buffer with that of a switch behind", func(n *impl.Net) { n.Joints[0].Name = "w" }, fault(4, 0)},
		{"a plain joint with that of a switch behind", func(n *impl.Net) { n.Joints[1].Name = "v" }, fault(4, 1)},
		{"a buffer and a plain joint with one name", func(n *impl.Net) { n.Joints[0].Name, n.Joints[1].Name = "q", "q" }, fault(4, 0)},
		{"that of a piece", func(n *impl.Net) { n.Joints[2].Name = "a" }, fault(0, 0)},
	})
}

func TestEndsThatStandTwiceOrNowhere(t *testing.T) {
	two := []impl.Piece{piece("a", 5), piece("b", 6)}
	for _, c := range []struct {
		what   string
		joints []impl.Joint
		want   impl.Fault
	}{
		{"side 0 of the first nowhere", []impl.Joint{buffer(end(0, 1)), buffer(end(1, 0)), buffer(end(1, 1))}, fault(5, 0)},
		{"side 1 of the first nowhere", []impl.Joint{buffer(end(0, 0)), buffer(end(1, 0)), buffer(end(1, 1))}, fault(5, 0)},
		{"side 0 of the last nowhere", []impl.Joint{plain(end(0, 1), end(0, 0)), buffer(end(1, 1))}, fault(5, 1)},
		{"side 1 of the last nowhere", []impl.Joint{plain(end(0, 1), end(0, 0)), buffer(end(1, 0))}, fault(5, 1)},
		{"twice in one plain joint", []impl.Joint{plain(end(1, 0), end(1, 0)), buffer(end(0, 0)), buffer(end(0, 1)), buffer(end(1, 1))}, fault(5, 1)},
		{"twice in one switch, left and right", []impl.Joint{fork("w", end(0, 0), end(1, 0), end(1, 0)), buffer(end(0, 1)), buffer(end(1, 1))}, fault(5, 1)},
		{"twice in one switch, tip and right", []impl.Joint{fork("w", end(1, 0), end(0, 0), end(1, 0)), buffer(end(0, 1)), buffer(end(1, 1))}, fault(5, 1)},
		{"twice in one crossing, next to each other", []impl.Joint{crossing("x", end(0, 0), end(0, 1), end(1, 1), end(1, 1)), buffer(end(1, 0))}, fault(5, 1)},
		{"twice in one crossing, far from each other", []impl.Joint{crossing("x", end(1, 1), end(0, 1), end(0, 0), end(1, 1)), buffer(end(1, 0))}, fault(5, 1)},
		{"four times in one crossing", []impl.Joint{crossing("x", end(1, 1), end(1, 1), end(1, 1), end(1, 1)), plain(end(0, 0), end(0, 1)), buffer(end(1, 0))}, fault(5, 1)},
		{"in two joints", []impl.Joint{buffer(end(1, 0)), buffer(end(0, 0)), buffer(end(0, 1)), buffer(end(1, 1)), buffer(end(1, 0))}, fault(5, 1)},
		{"in two joints of other kinds", []impl.Joint{plain(end(0, 0), end(1, 1)), buffer(end(0, 1)), plain(end(1, 0), end(0, 0))}, fault(5, 0)},
		{"in three joints", []impl.Joint{buffer(end(1, 0)), plain(end(0, 0), end(0, 1)), buffer(end(1, 0)), buffer(end(1, 1)), buffer(end(1, 0))}, fault(5, 1)},
		{"the one twice, the one behind it nowhere", []impl.Joint{plain(end(0, 0), end(0, 0)), plain(end(0, 1), end(1, 1))}, fault(5, 0)},
		{"the one nowhere, the one behind it twice", []impl.Joint{plain(end(1, 0), end(1, 0)), plain(end(0, 1), end(1, 1))}, fault(5, 0)},
		{"one side twice, the other nowhere", []impl.Joint{plain(end(0, 0), end(0, 1)), plain(end(1, 1), end(1, 1))}, fault(5, 1)},
	} {
		if got := impl.NetOk(impl.Net{Pieces: two, Joints: c.joints}); got != c.want {
			t.Errorf("%s: %v, not %v", c.what, got, c.want)
		}
	}
}

// faults are ones that can be had together: each hits a field of its own.
func faults() []spoilt {
	return []spoilt{
		{"size", func(n *impl.Net) { n.Joints = append(n.Joints, make([]impl.Joint, 120)...) }, fault(1, 0)},
		{"name of piece 0", func(n *impl.Net) { n.Pieces[0].Name = "A" }, fault(2, 0)},
		{"length of piece 2", func(n *impl.Net) { n.Pieces[2].Len = 0 }, fault(2, 2)},
		{"speed of piece 4", func(n *impl.Net) { n.Pieces[4].Speed = 10001 }, fault(2, 4)},
		{"twin name of piece 6", func(n *impl.Net) { n.Pieces[6].Name = n.Pieces[5].Name }, fault(2, 6)},
		{"kind of joint 0", func(n *impl.Net) { n.Joints[0].Kind = 0 }, fault(3, 0)},
		{"ends of joint 3", func(n *impl.Net) { n.Joints[3].Ends = n.Joints[3].Ends[:3] }, fault(3, 3)},
		{"end of joint 5", func(n *impl.Net) { n.Joints[5].Ends[0].Side = 2 }, fault(3, 5)},
		{"name of joint 1", func(n *impl.Net) { n.Joints[1].Name = "q" }, fault(4, 1)},
		{"name of joint 2", func(n *impl.Net) { n.Joints[2].Name = "" }, fault(4, 2)},
		{"name of joint 4", func(n *impl.Net) { n.Joints[4].Name = n.Joints[3].Name }, fault(4, 4)},
		{"end of piece 1 for one of piece 0", func(n *impl.Net) { n.Joints[1].Ends[0] = end(1, 0) }, fault(5, 0)},
		{"end of piece 6 for one of piece 5", func(n *impl.Net) { n.Joints[4].Ends[2] = end(6, 0) }, fault(5, 5)},
	}
}

func earlier(a, b impl.Fault) bool { return a.Code < b.Code || a.Code == b.Code && a.At < b.At }

func TestFirstOfSeveralFaults(t *testing.T) {
	all := faults()
	for set := 1; set < 1<<len(all); set++ {
		n := yard()
		want := fault(9, 0)
		what := []string{}
		for i, c := range all {
			// The one that makes the net too big comes first in the list, so the others spoil what was there.
			if set>>i&1 == 1 {
				c.spoil(&n)
				what = append(what, c.what)
				if earlier(c.want, want) {
					want = c.want
				}
			}
		}
		if got := impl.NetOk(n); got != want {
			t.Fatalf("%s: %v, not %v", strings.Join(what, ", "), got, want)
		}
	}
}

func TestFaultsAtTheLastPlaces(t *testing.T) {
	n := chains(100, 120)
	n.Joints[119].Name = "q"
	if got := impl.NetOk(n); got != fault(4, 119) {
		t.Error(got)
	}
	n.Joints[119].Ends = nil
	if got := impl.NetOk(n); got != fault(3, 119) {
		t.Error(got)
	}
	n.Pieces[99].Brake = 1001
	if got := impl.NetOk(n); got != fault(2, 99) {
		t.Error(got)
	}
	for p := range 100 {
		n = chains(100, 120)
		n.Pieces[p].Name = "p" + strconv.Itoa((p+1)%100)
		if got := impl.NetOk(n); got != fault(2, max(p, (p+1)%100)) {
			t.Errorf("piece %d with the name of the next: %v", p, got)
		}
	}
}
