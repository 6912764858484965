package tests

import (
	"slices"
	"testing"

	"loop.example/ballast/impl"
)

// halves has the sums 0 .. 511.
var halves = []int{1, 2, 4, 8, 16, 32, 64, 128, 256}

// upTo is the spots from one place to another one on a piece, looking to end 1.
func upTo(piece, from, to int) []impl.Spot {
	all := []impl.Spot{}
	for at := from; at <= to; at++ {
		all = append(all, spot(piece, at, 1))
	}
	return all
}

// fan is a net in which 512 drives come to a switch, and over it to a piece of length 1 and one of length 100, each with a buffer at its end: 1024 in one round. lead lays what is ahead of it.
func fan(lead func(b *builder, start int) int) (n impl.Net, long int) {
	b := &builder{}
	start := b.piece(1)
	b.stop(end(start, 0))
	last := b.ladder(lead(b, start), halves...)
	short, long := b.piece(1), b.piece(100)
	b.fork(last, short, long)
	b.stop(end(short, 1))
	b.stop(end(long, 1))
	return b.Net, long
}

// atOnce lays nothing ahead of a fan.
func atOnce(_ *builder, start int) int { return start }

func TestReachOfDrivesThatGoOnBesideToldOnes(t *testing.T) {
	n, long := fan(atOnce)
	// The longest way to the last switch.
	last := 1 + 2*len(halves) + 511
	for _, c := range []struct {
		what   string
		least  int
		places int
	}{
		{"24 told, 1000 go on", 77, 24},
		{"25 told, 999 go on", 76, 25},
		{"91 told, 933 go on", 10, 91},
		{"99 told", 2, 99},
		{"23 told, 1001 go on", 78, 0},
		{"22 told, 1002 go on", 79, 0},
		{"1 told, 1023 go on", 100, 0},
		{"none told, 1024 go on", 101, 0},
	} {
		// The drive with the longest way to the switch has come to the least place behind it.
		want := upTo(long, c.least, c.least+c.places-1)
		holdReach(t, c.what, n, spot(0, 0, 1), last+c.least, want...)
	}
	// On both pieces there is one with just 1 left.
	both := append(upTo(long-1, 1, 1), upTo(long, 1, 100)...)
	holdReach(t, "101 told", n, spot(0, 0, 1), last+1, both...)
}

func TestReachOfDrivesThatGoOnElsewhere(t *testing.T) {
	// One more piece of length 1 than in the fan.
	last := 2 + 2*len(halves) + 511
	n, long := fan(toTheSide)
	holdReach(t, "1000 go on beside 24 told, one told long ago", n, spot(0, 0, 1), last+77,
		append(upTo(2, last+76, last+76), upTo(long, 77, 100)...)...)
	holdReach(t, "1001 go on beside 23 told, one told long ago", n, spot(0, 0, 1), last+78)
	n, long = fan(toARing)
	got := impl.Reach(n, spot(0, 0, 1), last+76)
	if len(got) != 26 || !slices.Equal(got[1:], upTo(long, 76, 100)) || got[0].Piece != 3 {
		t.Errorf("999 go on, and one on a ring, beside 25 told: %v", got)
	}
	holdReach(t, "1000 go on, and one on a ring, beside 24 told", n, spot(0, 0, 1), last+77)
}

// siding is a ring with a switch to pieces of some lengths one behind the other, and a buffer at the end of the last one.
func siding(round int, lengths ...int) impl.Net {
	b := &builder{}
	b.piece(round)
	for i, length := range lengths {
		b.piece(length)
		if i > 0 {
			b.join(i, i+1)
		}
	}
	b.fork(0, 0, 1)
	b.stop(end(len(lengths), 1))
	return b.Net
}

func TestReachBehindTheLastRound(t *testing.T) {
	from := spot(0, 0, 1)
	n := siding(5, 1)
	holdReach(t, "told in round 999, one ends at the buffer in round 1000", n, from, 5000, spot(0, 5, 1))
	holdReach(t, "both told in round 1000", n, from, 5001, spot(0, 1, 1), spot(1, 1, 1))
	for far := 5002; far <= 5007; far++ {
		holdReach(t, "one goes on behind round 1000", n, from, far)
	}
	holdReach(t, "from within the ring, both told in round 1000", n, spot(0, 2, 1), 4999, spot(0, 1, 1), spot(1, 1, 1))
	holdReach(t, "from within the ring, one goes on", n, spot(0, 2, 1), 5000)
	holdReach(t, "from the end of the ring, both told in round 1000", n, spot(0, 5, 1), 4996, spot(0, 1, 1), spot(1, 1, 1))
	holdReach(t, "from the end of the ring, one goes on", n, spot(0, 5, 1), 4997)
	n = siding(5, 3)
	holdReach(t, "a longer siding, both told in round 1000", n, from, 5003, spot(0, 3, 1), spot(1, 3, 1))
	holdReach(t, "a longer siding, one goes on", n, from, 5004)
	n = siding(5, 7)
	holdReach(t, "a siding that is longer than the ring", n, from, 5005, spot(0, 5, 1), spot(1, 5, 1))
	holdReach(t, "a siding that is longer than the ring, the ring's drive goes on", n, from, 5006)
	holdReach(t, "round the other way no drive comes to the siding", siding(5, 1), spot(0, 5, -1), 5005, spot(0, 0, -1))
	holdReach(t, "round the other way, one goes on", siding(5, 1), spot(0, 5, -1), 5006)
}

func TestReachOfSidingsOfManyPieces(t *testing.T) {
	from := spot(0, 0, 1)
	// The drive that came to the siding in round 999 is at its second piece in round 1000.
	n := siding(5, 1, 4)
	holdReach(t, "told on the ring in round 999, on the second piece of the siding in round 1000", n, from, 5000, spot(0, 5, 1), spot(2, 4, 1))
	holdReach(t, "told on the ring and the first piece, one goes on from the second", n, from, 5001)
	n = siding(5, 1, 5)
	holdReach(t, "all told in round 1000", n, from, 5001, spot(0, 1, 1), spot(1, 1, 1), spot(2, 5, 1))
	holdReach(t, "one goes on from the first piece", n, from, 5002)
}

// Drives that ended at a buffer long ago are not there any more in the last round.
func TestReachBesideDrivesThatEndedLongAgo(t *testing.T) {
	b := &builder{}
	start, dead, in, round := b.piece(1), b.piece(2), b.piece(1), b.piece(10)
	b.stop(end(start, 0))
	b.fork(start, dead, in)
	b.stop(end(dead, 1))
	b.merge(round, in, round)
	// Over in the first round, to the ring in the second one, and 998 times over its joint.
	holdReach(t, "told in round 1000", b.Net, spot(start, 0, 1), 2+9980+10, spot(round, 10, 1))
	holdReach(t, "one goes on behind round 1000", b.Net, spot(start, 0, 1), 2+9980+11)
}

// heading is a drive of the rounds that are gone through here: just behind a joint, with so much left.
type heading struct {
	impl.Spot
	left int
}

// roundByRound is Reach by the words of the document, and how many drives went on behind a round at most.
func roundByRound(n impl.Net, s impl.Spot, far int) (told []impl.Spot, most int) {
	on := map[heading]bool{{s, far}: true}
	for number := 0; ; number++ {
		next := map[heading]bool{}
		for d := range on {
			if d.left <= rest(n, d.Spot) {
				told = append(told, spot(d.Piece, d.At+d.Way*d.left, d.Way))
				delete(on, d)
				continue
			}
			for _, step := range onward(n, stepOf(d.Spot)) {
				next[heading{startOf(n, step), d.left - rest(n, d.Spot)}] = true
			}
		}
		slices.SortFunc(told, bySpot)
		told = slices.Compact(told)
		most = max(most, len(on))
		if len(told) > 200 || len(on) > 1000 || number == 1001 {
			return nil, most
		}
		if len(on) == 0 {
			return told, most
		}
		on = next
	}
}

func holdRounds(t *testing.T, n impl.Net, s impl.Spot, far int) (told, most int) {
	t.Helper()
	want, most := roundByRound(n, s, far)
	if got := impl.Reach(n, s, far); !slices.Equal(got, want) {
		t.Fatalf("%q, %v over %d: %v, not %v", tell(n), s, far, got, want)
	}
	return len(want), most
}

func TestReachRoundByRoundInMazes(t *testing.T) {
	some, none, crowded := 0, 0, 0
	for _, n := range append(mazes(100, 2), append(mazes(30, 5), mazes(9, 20)...)...) {
		for p := 0; p < len(n.Pieces); p += 1 + len(n.Pieces)/8 {
			for far := 0; far < 120; far += 3 {
				told, most := holdRounds(t, n, spot(p, 0, 1-2*(p%2)), far)
				if told > 0 {
					some++
				} else {
					none++
				}
				if most > 1000 {
					crowded++
				}
			}
		}
	}
	if some == 0 || none == 0 || crowded == 0 {
		t.Errorf("not every kind of answer: %d with spots, %d without, %d of too many drives", some, none, crowded)
	}
}

func TestReachRoundByRoundAtTheEdges(t *testing.T) {
	n, _ := fan(atOnce)
	side, _ := fan(toTheSide)
	round, _ := fan(toARing)
	for far := 515; far < 660; far++ {
		for _, one := range []impl.Net{n, side, round} {
			holdRounds(t, one, spot(0, 0, 1), far)
		}
	}
	for _, one := range []impl.Net{siding(5, 1), siding(5, 3), siding(5, 7), siding(5, 1, 4), siding(5, 1, 5), siding(5, 1, 1, 1)} {
		for far := 4985; far < 5020; far++ {
			holdRounds(t, one, spot(0, 0, 1), far)
			holdRounds(t, one, spot(0, 3, 1), far)
		}
	}
}
