package tests

import (
	"slices"
	"testing"

	"loop.example/ballast/impl"
)

// ends are all ends of the yard, and some that it does not have.
func ends() []impl.End {
	all := noEnds()
	for p := range yard().Pieces {
		all = append(all, end(p, 0), end(p, 1))
	}
	return all
}

// roomy is a net whose lists have room behind them, filled, so that a write behind a list's end shows too.
func roomy(n impl.Net) (impl.Net, impl.Net) {
	whole := impl.Net{
		Pieces: append(slices.Clone(n.Pieces), piece("rest", 1)),
		Joints: append(slices.Clone(n.Joints), buffer(end(0, 0))),
	}
	for j, joint := range whole.Joints {
		whole.Joints[j].Ends = append(slices.Clone(joint.Ends), end(8, 8))
	}
	short := impl.Net{Pieces: whole.Pieces[:len(n.Pieces)], Joints: slices.Clone(whole.Joints)[:len(n.Joints)]}
	for j, joint := range n.Joints {
		short.Joints[j].Ends = whole.Joints[j].Ends[:len(joint.Ends)]
	}
	return short, whole
}

func TestArgumentsStayAsTheyWere(t *testing.T) {
	cases := append(faults(), spoilt{"right", func(*impl.Net) {}, impl.Fault{}})
	for _, c := range cases {
		n := yard()
		c.spoil(&n)
		short, whole := roomy(n)
		shortWas, wholeWas := tell(short), tell(whole)
		for _, e := range ends() {
			impl.NetOk(short)
			impl.JointAt(short, e)
			impl.Across(short, e)
		}
		if tell(short) != shortWas || tell(whole) != wholeWas {
			t.Errorf("%s: the net was written into", c.what)
		}
	}
}

func TestAnswersShareNoMemory(t *testing.T) {
	short, whole := roomy(yard())
	shortWas, wholeWas := tell(short), tell(whole)
	for _, e := range ends() {
		got := impl.Across(short, e)
		other := impl.Across(short, e)
		was := slices.Clone(got)
		for i := range got[:cap(got)] {
			got[:cap(got)][i] = end(-7, -7)
		}
		if tell(short) != shortWas || tell(whole) != wholeWas {
			t.Fatalf("the answer at %v shares memory with the net", e)
		}
		if !slices.Equal(other, was) {
			t.Fatalf("two answers at %v share memory", e)
		}
	}
}

func TestAnswersStayWhenTheNetChanges(t *testing.T) {
	n := yard()
	got := impl.Across(n, end(1, 1))
	n.Joints[2].Ends[1] = end(0, 0)
	n.Joints[2].Ends[2] = end(0, 0)
	if !slices.Equal(got, []impl.End{end(2, 0), end(3, 0)}) {
		t.Error(got)
	}
}

func TestSameArgumentSameAnswer(t *testing.T) {
	for _, c := range faults() {
		n := yard()
		c.spoil(&n)
		for range 20 {
			if got := impl.NetOk(n); got != c.want {
				t.Fatalf("%s: %v", c.what, got)
			}
		}
	}
	for _, e := range ends() {
		joint, to := impl.JointAt(yard(), e), impl.Across(yard(), e)
		impl.NetOk(impl.Net{})
		for range 20 {
			if impl.JointAt(yard(), e) != joint || !slices.Equal(impl.Across(yard(), e), to) {
				t.Fatalf("%v: another answer", e)
			}
		}
	}
}
