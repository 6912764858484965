package tests

import (
	"fmt"
	"slices"
	"strings"
	"testing"

	"loop.example/ballast/impl"
)

// spell writes the text of any net, right or not, as the document has its lines.
func spell(n impl.Net) string {
	var b strings.Builder
	for _, p := range n.Pieces {
		fmt.Fprintf(&b, "piece %s %d speed %d brake %d\n", p.Name, p.Len, p.Speed, p.Brake)
	}
	for _, j := range n.Joints {
		b.WriteString(map[int]string{1: "end", 2: "join", 3: "switch", 4: "cross"}[j.Kind])
		if j.Kind > 2 {
			b.WriteString(" " + j.Name)
		}
		for _, e := range j.Ends {
			fmt.Fprintf(&b, " %s.%d", n.Pieces[e.Piece].Name, e.Side)
		}
		b.WriteString("\n")
	}
	return b.String()
}

func lines(all ...string) string { return strings.Join(all, "\n") + "\n" }

// rightNets has every kind of joint, and the numbers, names and sizes at their limits.
func rightNets() map[string]impl.Net {
	long := strings.Repeat("z", 20)
	limits := impl.Net{
		Pieces: []impl.Piece{
			{Name: long, Len: 10000000, Speed: 10000, Brake: 1000},
			{Name: "_", Len: 1, Speed: 1, Brake: 1},
			{Name: "0", Len: 9999999, Speed: 9999, Brake: 999},
		},
		Joints: []impl.Joint{
			crossing(long, end(2, 1), end(0, 0), end(1, 1), end(1, 0)),
			plain(end(0, 1), end(2, 0)),
		},
	}
	swapped := yard()
	slices.Reverse(swapped.Joints)
	words := yard()
	for p, name := range []string{"piece", "speed", "brake", "end", "join", "switch", "cross"} {
		words.Pieces[p].Name = name
	}
	words.Joints[2].Name, words.Joints[3].Name, words.Joints[4].Name = "switch", "cross", "end"
	return map[string]impl.Net{
		"every kind of joint":                   yard(),
		"the joints in another order":           swapped,
		"limits":                                limits,
		"names that are words of lines":         words,
		"one piece between buffers":             shuttle(piece("a", 1)),
		"a ring":                                {Pieces: []impl.Piece{piece("a", 9)}, Joints: []impl.Joint{plain(end(0, 1), end(0, 0))}},
		"a joint with the name of a piece":      {Pieces: []impl.Piece{piece("a", 9), piece("b", 9)}, Joints: []impl.Joint{fork("a", end(0, 0), end(1, 0), end(1, 1)), buffer(end(0, 1))}},
		"as many pieces and joints as may be":   chains(100, 120),
		"as many pieces as may be":              chains(100, 100),
		"as many joints as may be":              chains(60, 120),
		"switches and crossings and all limits": tangle(),
	}
}

// tangle has 100 pieces, and joints of every kind by turns.
func tangle() impl.Net {
	n := chains(100, 100)
	ends := []impl.End{}
	for p := range n.Pieces {
		ends = append(ends, end(99-p, 1), end(p, 0))
	}
	n.Joints = nil
	for kind := 1; len(ends) > 0; kind = kind%4 + 1 {
		j := impl.Joint{Kind: kind, Ends: slices.Clone(ends[:kind])}
		if kind > 2 {
			j.Name = fmt.Sprintf("j_%017d", len(n.Joints))
		}
		n.Joints = append(n.Joints, j)
		ends = ends[kind:]
	}
	return n
}

func holdTold(t *testing.T, text string, code, line int) {
	t.Helper()
	got := impl.ReadNet(text)
	if got.Code != code || got.Line != line {
		t.Errorf("%.200q: code %d, line %d, not %d, %d", text, got.Code, got.Line, code, line)
	}
	if code != 0 && len(got.Net.Pieces)+len(got.Net.Joints) > 0 {
		t.Errorf("%.200q: a net beside a fault", text)
	}
}

func holdNet(t *testing.T, text string, want impl.Net) {
	t.Helper()
	got := impl.ReadNet(text)
	if got.Code != 0 || got.Line != 0 || tell(got.Net) != tell(want) {
		t.Errorf("%.200q: code %d, line %d, net %.200q", text, got.Code, got.Line, tell(got.Net))
	}
}
