package tests

import (
	"math"
	"math/rand"
	"slices"
	"testing"

	"loop.example/ballast/impl"
)

// noParts are parts that are none.
func noParts() []impl.Part {
	return []impl.Part{
		part(-1, 1, 5), part(100, 1, 5), part(math.MinInt, 1, 5), part(math.MaxInt, 1, 5),
		part(0, -1, 5), part(0, math.MinInt, 5), part(0, -5, -1), part(0, -1, -1),
		part(0, 1, 10000001), part(0, 10000001, 10000001), part(0, 10000000, 10000001), part(0, 1, math.MaxInt), part(0, math.MinInt, math.MaxInt),
		part(0, 5, 4), part(0, 1, 0), part(0, 10000000, 9999999), part(0, 10000000, 0), part(0, 0, -1), part(99, 5, math.MinInt), part(0, 10000001, 5),
	}
}

// someParts has parts at the limits.
func someParts() []impl.Part {
	return []impl.Part{part(99, 0, 10000000), part(0, 10000000, 10000000), part(0, 0, 0), part(99, 0, 1), part(3, 9999999, 10000000)}
}

func TestPartsLen(t *testing.T) {
	for _, c := range []struct {
		what  string
		parts []impl.Part
		want  int
	}{
		{"none", nil, 0},
		{"an empty list", []impl.Part{}, 0},
		{"one", []impl.Part{part(0, 3, 10)}, 7},
		{"one that is empty", []impl.Part{part(0, 3, 3)}, 0},
		{"an empty one within", []impl.Part{part(0, 3, 10), part(1, 4, 4), part(2, 0, 5)}, 12},
		{"the same one twice", []impl.Part{part(0, 3, 10), part(0, 3, 10)}, 14},
		{"some that meet", []impl.Part{part(0, 3, 10), part(0, 10, 12)}, 9},
		{"some that lie over each other", []impl.Part{part(0, 3, 10), part(0, 5, 6)}, 8},
		{"of different pieces", []impl.Part{part(9, 0, 4), part(1, 0, 4), part(99, 0, 4)}, 12},
		{"at the limits", someParts(), 10000002},
		{"10000 of them", slices.Repeat([]impl.Part{part(99, 0, 10000000)}, 10000), 100000000000},
		{"one more", slices.Repeat([]impl.Part{part(99, 0, 10000000)}, 10001), -1},
		{"10000 empty ones", make([]impl.Part, 10000), 0},
		{"one more empty one", make([]impl.Part, 10001), -1},
	} {
		if got := impl.PartsLen(c.parts); got != c.want {
			t.Errorf("%s: %d, not %d", c.what, got, c.want)
		}
	}
	for _, wrong := range noParts() {
		for at := range 3 {
			parts := slices.Insert([]impl.Part{part(0, 0, 10), part(1, 2, 3)}, at, wrong)
			if got := impl.PartsLen(parts); got != -1 {
				t.Errorf("%v: %d", parts, got)
			}
		}
	}
}

func holdTouch(t *testing.T, what string, a, b []impl.Part, want bool) {
	t.Helper()
	if got := impl.Touch(a, b); got != want {
		t.Errorf("%s: %v", what, got)
	}
	if got := impl.Touch(b, a); got != want {
		t.Errorf("%s, the other way round: %v", what, got)
	}
}

func TestTouch(t *testing.T) {
	for _, c := range []struct {
		what string
		a, b []impl.Part
		want bool
	}{
		{"none and none", nil, nil, false},
		{"none and some", nil, []impl.Part{part(0, 0, 5)}, false},
		{"empty and some", []impl.Part{}, []impl.Part{part(0, 0, 5)}, false},
		{"one and itself", []impl.Part{part(0, 2, 5)}, []impl.Part{part(0, 2, 5)}, true},
		{"ends alone meet", []impl.Part{part(0, 2, 5)}, []impl.Part{part(0, 5, 9)}, true},
		{"ends that just do not meet", []impl.Part{part(0, 2, 5)}, []impl.Part{part(0, 6, 9)}, false},
		{"one within the other", []impl.Part{part(0, 2, 9)}, []impl.Part{part(0, 4, 5)}, true},
		{"one that begins with the other", []impl.Part{part(0, 2, 9)}, []impl.Part{part(0, 2, 3)}, true},
		{"one partly over the other", []impl.Part{part(0, 2, 6)}, []impl.Part{part(0, 4, 9)}, true},
		{"different pieces", []impl.Part{part(0, 2, 5)}, []impl.Part{part(1, 2, 5)}, false},
		{"different pieces, far from each other", []impl.Part{part(0, 2, 5), part(99, 0, 7)}, []impl.Part{part(1, 2, 5), part(98, 0, 7)}, false},
		{"empty ones at one place", []impl.Part{part(4, 3, 3)}, []impl.Part{part(4, 3, 3)}, true},
		{"empty ones at two places", []impl.Part{part(4, 3, 3)}, []impl.Part{part(4, 4, 4)}, false},
		{"an empty one within", []impl.Part{part(4, 3, 3)}, []impl.Part{part(4, 1, 8)}, true},
		{"an empty one at an end", []impl.Part{part(4, 8, 8)}, []impl.Part{part(4, 1, 8)}, true},
		{"an empty one outside", []impl.Part{part(4, 9, 9)}, []impl.Part{part(4, 1, 8)}, false},
		{"an empty one within a list", []impl.Part{part(1, 0, 4), part(4, 3, 3), part(2, 0, 9)}, []impl.Part{part(7, 0, 3), part(4, 1, 8)}, true},
		{"the same one twice", []impl.Part{part(1, 0, 4), part(1, 0, 4)}, []impl.Part{part(1, 5, 6), part(1, 5, 6)}, false},
		{"two of one list alone", []impl.Part{part(1, 0, 4), part(1, 2, 6)}, []impl.Part{part(2, 0, 9)}, false},
		{"the last with the last", []impl.Part{part(1, 0, 4), part(3, 2, 6)}, []impl.Part{part(2, 0, 9), part(3, 6, 6)}, true},
		{"the first with the last", []impl.Part{part(3, 2, 6), part(1, 0, 4)}, []impl.Part{part(2, 0, 9), part(3, 6, 6)}, true},
		{"a long one ahead of short ones", []impl.Part{part(3, 0, 90), part(3, 1, 2), part(3, 3, 4)}, []impl.Part{part(3, 80, 81)}, true},
		{"between those of the other", []impl.Part{part(3, 0, 2), part(3, 8, 9)}, []impl.Part{part(3, 3, 7)}, false},
		{"at the limits", someParts(), []impl.Part{part(0, 1, 9999999), part(99, 10000000, 10000000)}, true},
		{"just not at the limits", someParts(), []impl.Part{part(0, 1, 9999999), part(3, 0, 9999998), part(98, 0, 10000000)}, false},
	} {
		holdTouch(t, c.what, c.a, c.b, c.want)
	}
}

func TestTouchOfWhatIsNotAPart(t *testing.T) {
	good := []impl.Part{part(0, 0, 10000000), part(1, 2, 3)}
	holdTouch(t, "good ones", good, good, true)
	for _, wrong := range noParts() {
		for at := range 3 {
			holdTouch(t, "a wrong one", slices.Insert(slices.Clone(good), at, wrong), good, false)
		}
	}
	all, more := slices.Repeat(good, 5000), slices.Repeat(good, 5001)[:10001]
	holdTouch(t, "10000 of them", all, good, true)
	holdTouch(t, "10000 of them twice", all, all, true)
	holdTouch(t, "one more", more, good, false)
	holdTouch(t, "one more and none", more, nil, false)
	holdTouch(t, "one more and as many as may be", more, all, false)
}

func TestTouchOfLongLists(t *testing.T) {
	low, high := make([]impl.Part, 10000), make([]impl.Part, 10000)
	for i := range low {
		low[i] = part(i%100, i/100*10, i/100*10+4)
		high[9999-i] = part(i%100, i/100*10+5, i/100*10+9)
	}
	holdTouch(t, "side by side", low, high, false)
	for _, i := range []int{0, 1, 5000, 9998, 9999} {
		one := slices.Clone(high)
		one[i].From--
		holdTouch(t, "but for one", low, one, true)
	}
}

func touchOneByOne(a, b []impl.Part) bool {
	for _, p := range a {
		for _, q := range b {
			if p.Piece == q.Piece && p.From <= q.To && q.From <= p.To {
				return true
			}
		}
	}
	return false
}

func anyParts(source *rand.Rand) []impl.Part {
	parts := []impl.Part{}
	for range source.Intn(6) {
		from := source.Intn(25)
		parts = append(parts, part(source.Intn(3), from, from+source.Intn(5)*source.Intn(3)))
	}
	return parts
}

func TestTouchOfAnyLists(t *testing.T) {
	source := rand.New(rand.NewSource(5))
	counts := [2]int{}
	for range 50000 {
		a, b := anyParts(source), anyParts(source)
		want := touchOneByOne(a, b)
		if want {
			counts[1]++
		} else {
			counts[0]++
		}
		if got := impl.Touch(a, b); got != want {
			t.Fatalf("%v and %v: %v", a, b, got)
		}
	}
	if min(counts[0], counts[1]) < 10000 {
		t.Error("the lists are too much alike", counts)
	}
}
