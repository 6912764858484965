package tests

import (
	"math/rand"
	"slices"
	"strings"
	"testing"

	"loop.example/ballast/impl"
)

// holdAny asks of any text what every answer has to keep to.
func holdAny(t *testing.T, text string) {
	t.Helper()
	got := impl.ReadNet(text)
	all := strings.Split(text, "\n")
	switch got.Code {
	case 0:
		if got.Line != 0 || impl.NetOk(got.Net) != (impl.Fault{}) {
			t.Fatalf("%q: code 0, line %d, and a net that is not right", text, got.Line)
		}
		holdNet(t, impl.WriteNet(got.Net), got.Net)
		return
	case 1, 2, 3, 4, 5:
		if got.Line < 1 || got.Line > len(all) {
			t.Fatalf("%q: no line %d", text, got.Line)
		}
		// The line is the first one: with it the text is as wrong, without it and what is behind it no line is.
		holdTold(t, strings.Join(all[:got.Line], "\n"), got.Code, got.Line)
		if ahead := impl.ReadNet(strings.Join(all[:got.Line-1], "\n")); ahead.Code != 0 && ahead.Code < 6 {
			t.Fatalf("%q: line %d is told, but line %d is wrong", text, got.Line, ahead.Line)
		}
	case 6:
		if got.Line != 0 {
			t.Fatalf("%q: code 6, line %d", text, got.Line)
		}
	case 7:
		if got.Line < 0 || got.Line >= strings.Count(text, "piece") {
			t.Fatalf("%q: no piece %d", text, got.Line)
		}
	default:
		t.Fatalf("%q: no code %d", text, got.Code)
	}
	if len(got.Net.Pieces)+len(got.Net.Joints) > 0 {
		t.Fatalf("%q: a net beside code %d", text, got.Code)
	}
}

func TestTextsOfAnyBytes(t *testing.T) {
	small := spell(impl.Net{
		Pieces: []impl.Piece{piece("a", 1), piece("b", 20)},
		Joints: []impl.Joint{fork("w", end(0, 0), end(1, 0), end(1, 1)), buffer(end(0, 1))},
	})
	for b := range 256 {
		one := string([]byte{byte(b)})
		holdAny(t, one)
		for i := range len(small) {
			holdAny(t, small[:i]+one+small[i:])
			holdAny(t, small[:i]+one+small[i+1:])
		}
	}
	for i := range len(small) {
		holdAny(t, small[:i])
		holdAny(t, small[i:])
		holdAny(t, small[:i]+small[i+1:])
	}
}

func TestTextsOfAnyWords(t *testing.T) {
	source := rand.New(rand.NewSource(1))
	words := []string{
		"piece", "end", "join", "switch", "cross", "speed", "brake", "a", "b", "w", "0", "1", "7", "07", "a.0", "a.1", "b.0", "b.1", "a.2", "c.0",
		"piece a 7 speed 1 brake 1", "piece b 7 speed 1 brake 1", "end a.0", "join a.0 a.1", "join b.1 b.0", "switch w a.0 b.0 b.1", "#", "# ", "\xff", "\r", ".", "",
	}
	parts := []string{" ", "\n", "\n", "\n", "\t", "", " #", "\n\n"}
	for range 20000 {
		var b strings.Builder
		for range source.Intn(12) {
			b.WriteString(words[source.Intn(len(words))])
			b.WriteString(parts[source.Intn(len(parts))])
		}
		holdAny(t, b.String())
	}
	noise := make([]byte, 300)
	for range 2000 {
		source.Read(noise)
		holdAny(t, string(noise))
	}
}

func TestSameTextSameAnswer(t *testing.T) {
	for _, text := range []string{
		yardText, "", begun, begun + "end a.0", begun + "switch w c.0 c.1 d.0", "track", "end a.0",
		spell(chains(100, 120)), spell(chains(101, 120)), strings.Repeat(" ", impl.MaxText+1),
	} {
		first := impl.ReadNet(text)
		for range 20 {
			impl.ReadNet(yardText)
			again := impl.ReadNet(text)
			if again.Code != first.Code || again.Line != first.Line || tell(again.Net) != tell(first.Net) {
				t.Fatalf("%q: another answer", text)
			}
		}
	}
	for what, n := range rightNets() {
		first := impl.WriteNet(n)
		for range 20 {
			if impl.WriteNet(n) != first {
				t.Fatalf("%s: another text", what)
			}
		}
	}
}

func TestWritingLeavesTheNetAsItWas(t *testing.T) {
	cases := append(faults(), spoilt{"right", func(*impl.Net) {}, impl.Fault{}})
	for _, c := range cases {
		n := yard()
		c.spoil(&n)
		short, whole := roomy(n)
		shortWas, wholeWas := tell(short), tell(whole)
		impl.WriteNet(short)
		if tell(short) != shortWas || tell(whole) != wholeWas {
			t.Errorf("%s: the net was written into", c.what)
		}
	}
}

// Whoever fills a list up to where its memory ends changes no other list.
func TestListsOfANetShareNoMemory(t *testing.T) {
	for what, n := range rightNets() {
		text := spell(n)
		got, other := impl.ReadNet(text).Net, impl.ReadNet(text).Net
		for j := range got.Joints {
			ends := got.Joints[j].Ends
			was := slices.Clone(ends)
			for i := range ends[:cap(ends)] {
				ends[:cap(ends)][i] = end(-7, -7)
			}
			copy(ends, was)
			if tell(got) != tell(n) {
				t.Fatalf("%s: the ends of joint %d share memory with others", what, j)
			}
			for i := range ends {
				ends[i] = end(-7, -7)
			}
			if tell(other) != tell(n) {
				t.Fatalf("%s: two answers share memory", what)
			}
			copy(ends, was)
		}
		clear(got.Pieces[:cap(got.Pieces)])
		clear(got.Joints[:cap(got.Joints)])
		if tell(other) != tell(n) {
			t.Fatalf("%s: two answers share memory", what)
		}
	}
}
