package tests

import (
	"slices"
	"testing"

	"loop.example/ballast/impl"
)

// driveAll calls all functions of the chapter that are given a net.
func driveAll(n impl.Net, lies []int, s impl.Spot, far int) {
	impl.SpotOk(n, s)
	impl.Turn(n, s)
	impl.Drive(n, lies, s, far)
	impl.Ahead(n, lies, s, far)
	impl.Behind(n, lies, s, far)
}

func TestDrivesLeaveArgumentsAsTheyWere(t *testing.T) {
	cases := append(faults(), spoilt{"right", func(*impl.Net) {}, impl.Fault{}})
	for _, c := range cases {
		n := yard()
		c.spoil(&n)
		short, whole := roomy(n)
		shortWas, wholeWas := tell(short), tell(whole)
		for _, lies := range append(noLies(), leftLies, rightLies, make([]int, 6)) {
			room := append(slices.Clone(lies), 7, 7, 7)
			was := slices.Clone(room)
			for _, s := range []impl.Spot{spot(0, 0, 1), spot(6, 70, -1), spot(2, 30, 1), spot(9, 9, 9)} {
				for _, far := range []int{-1, 0, 1, 65, 270, impl.MaxFar} {
					driveAll(short, room[:len(lies)], s, far)
				}
			}
			if !slices.Equal(room, was) {
				t.Errorf("%s: lies were written into", c.what)
			}
		}
		if tell(short) != shortWas || tell(whole) != wholeWas {
			t.Errorf("%s: the net was written into", c.what)
		}
	}
}

func TestPartsStayAsTheyWere(t *testing.T) {
	lists := [][]impl.Part{
		{part(5, 4, 9), part(0, 8, 9), part(5, 0, 1), part(0, 2, 3), part(99, 0, 0)},
		{part(7, 4, 9), part(5, 2, 3), part(0, 5, 6), part(0, 5, 5)},
		append([]impl.Part{part(9, 9, 9)}, noParts()...),
		slices.Repeat([]impl.Part{part(5, 4, 9), part(0, 8, 9)}, 5001),
	}
	for _, a := range lists {
		for _, b := range lists {
			roomA, roomB := append(slices.Clone(a), part(-7, 0, 0)), append(slices.Clone(b), part(-7, 0, 0))
			wasA, wasB := slices.Clone(roomA), slices.Clone(roomB)
			impl.Touch(roomA[:len(a)], roomB[:len(b)])
			impl.PartsLen(roomA[:len(a)])
			if !slices.Equal(roomA, wasA) || !slices.Equal(roomB, wasB) {
				t.Errorf("%.60v, %.60v: written into", wasA, wasB)
			}
		}
	}
	// Parts of one list, so that its halves share memory.
	both := slices.Concat(lists[0], lists[1])
	was := slices.Clone(both)
	impl.Touch(both[:5], both[3:])
	if !slices.Equal(both, was) {
		t.Error("written into", both)
	}
}

func TestPartsShareNoMemory(t *testing.T) {
	short, whole := roomy(yard())
	shortWas, wholeWas := tell(short), tell(whole)
	for name, ask := range map[string]func(impl.Net, []int, impl.Spot, int) []impl.Part{"Ahead": impl.Ahead, "Behind": impl.Behind} {
		for _, far := range []int{1, 65, 270} {
			lies := slices.Clone(leftLies)
			got, other := ask(short, lies, spot(2, 10, 1), far), ask(short, lies, spot(2, 10, 1), far)
			was := slices.Clone(other)
			got = got[:cap(got)]
			for i := range got {
				got[i] = part(-7, -7, -7)
			}
			if !slices.Equal(other, was) {
				t.Errorf("%s: two answers share memory", name)
			}
			if tell(short) != shortWas || tell(whole) != wholeWas || !slices.Equal(lies, leftLies) {
				t.Errorf("%s: an answer shares memory with an argument", name)
			}
			if again := ask(short, lies, spot(2, 10, 1), far); !slices.Equal(again, was) {
				t.Errorf("%s: an answer is kept", name)
			}
		}
	}
}

func TestSameDriveSameAnswer(t *testing.T) {
	n := tangle()
	lies := make([]int, len(n.Joints))
	for j, joint := range n.Joints {
		if joint.Kind == impl.JSwitch {
			lies[j] = 1 + j%2
		}
	}
	for p := range n.Pieces {
		for _, s := range []impl.Spot{spot(p, 0, 1), spot(p, 1, -1), spot(p, -1, 1)} {
			driven, ahead, behind := impl.Drive(n, lies, s, 777), impl.Ahead(n, lies, s, 777), impl.Behind(n, lies, s, 777)
			turned, ok := impl.Turn(n, s), impl.SpotOk(n, s)
			for range 5 {
				impl.Drive(yard(), leftLies, spot(0, 0, 1), 270)
				if impl.Drive(n, lies, s, 777) != driven || impl.Turn(n, s) != turned || impl.SpotOk(n, s) != ok {
					t.Fatalf("%v: another answer", s)
				}
				if !slices.Equal(impl.Ahead(n, lies, s, 777), ahead) || !slices.Equal(impl.Behind(n, lies, s, 777), behind) {
					t.Fatalf("%v: other parts", s)
				}
				if impl.PartsLen(ahead) != driven.Far || impl.Touch(ahead, ahead) != (len(ahead) > 0) {
					t.Fatalf("%v: parts of another length", s)
				}
			}
			if creeped, parts := creep(n, lies, s, 777); ok && (driven != creeped || !slices.Equal(ahead, parts)) {
				t.Fatalf("%v: %v and %v, not %v and %v", s, driven, ahead, creeped, parts)
			}
		}
	}
}
