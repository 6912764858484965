package tests

import (
	"strings"
	"testing"

	"loop.example/ballast/impl"
)

const yardText = `piece a 100 speed 100 brake 10
piece b 20 speed 100 brake 10
piece c 30 speed 100 brake 10
piece d 40 speed 100 brake 10
piece e 50 speed 100 brake 10
piece f 60 speed 100 brake 10
piece g 70 speed 100 brake 10
end a.0
join a.1 b.0
switch w b.1 c.0 d.0
cross x c.1 e.0 d.1 f.0
switch v g.0 e.1 f.1
end g.1
`

func TestWriteWordForWord(t *testing.T) {
	if got := impl.WriteNet(yard()); got != yardText {
		t.Errorf("%q", got)
	}
	ring := impl.Net{
		Pieces: []impl.Piece{{Name: "r_0", Len: 10000000, Speed: 10000, Brake: 1000}},
		Joints: []impl.Joint{plain(end(0, 1), end(0, 0))},
	}
	if got := impl.WriteNet(ring); got != "piece r_0 10000000 speed 10000 brake 1000\njoin r_0.1 r_0.0\n" {
		t.Errorf("%q", got)
	}
	for what, n := range rightNets() {
		if got := impl.WriteNet(n); got != spell(n) {
			t.Errorf("%s: %q", what, got)
		}
	}
}

func TestWriteAndReadBack(t *testing.T) {
	for what, n := range rightNets() {
		if f := impl.NetOk(n); f != (impl.Fault{}) {
			t.Fatalf("%s is not right: %v", what, f)
		}
		holdNet(t, impl.WriteNet(n), n)
		holdNet(t, spell(n), n)
	}
	holdNet(t, yardText, yard())
}

func TestNothingWrittenOfANetThatIsNotRight(t *testing.T) {
	for _, c := range faults() {
		n := yard()
		c.spoil(&n)
		if got := impl.WriteNet(n); got != "" {
			t.Errorf("%s: %q", c.what, got)
		}
	}
	for _, n := range []impl.Net{{}, {Pieces: yard().Pieces}, {Joints: yard().Joints}, chains(101, 120), chains(100, 121)} {
		if got := impl.WriteNet(n); got != "" {
			t.Errorf("%q", got)
		}
	}
}

// relaid is the text with another layout of its lines.
func relaid(text string, line func(words []string) string) string {
	var b strings.Builder
	for l := range strings.Lines(text) {
		b.WriteString(line(strings.Fields(l)))
	}
	return b.String()
}

func TestOtherBlanksAndRemarks(t *testing.T) {
	for what, n := range rightNets() {
		text := impl.WriteNet(n)
		if !strings.HasSuffix(text, "\n") {
			t.Fatalf("%s: no newline at the end", what)
		}
		for _, other := range []string{
			text[:len(text)-1],
			text + "\n",
			text + "\n\n \t\n\t\t",
			"\n\n" + text,
			"\t \n" + text,
			text + "#",
			text + "# the end",
			text + " \t# the end\n",
			"#" + "\n" + text,
			"# piece a 1 speed 1 brake 1\n#track\n##\n" + text,
			relaid(text, func(w []string) string { return strings.Join(w, "  ") + "\n" }),
			relaid(text, func(w []string) string { return strings.Join(w, "\t") + "\n" }),
			relaid(text, func(w []string) string { return " \t" + strings.Join(w, " \t \t") + "\t \n" }),
			relaid(text, func(w []string) string { return "\t\t" + strings.Join(w, "\t\t ") + " \n" }),
			relaid(text, func(w []string) string { return strings.Join(w, " ") + "\n\n" }),
			relaid(text, func(w []string) string { return "\n \n" + strings.Join(w, " ") + "\n" }),
			relaid(text, func(w []string) string { return strings.Join(w, " ") + "#\n" }),
			relaid(text, func(w []string) string { return strings.Join(w, " ") + "#rest of the word\n" }),
			relaid(text, func(w []string) string { return strings.Join(w, " ") + " # end a.0\n" }),
			relaid(text, func(w []string) string { return strings.Join(w, " ") + "\t## # \t\n" }),
			relaid(text, func(w []string) string { return "#" + strings.Join(w, " ") + "\n" + strings.Join(w, " ") + "\n" }),
			relaid(text, func(w []string) string { return strings.Join(w, " ") + "#\r\x00\xff\xc3(\n" }),
		} {
			if len(other) <= impl.MaxText {
				holdNet(t, other, n)
			}
		}
	}
}

func TestARemarkWithinAWord(t *testing.T) {
	p := "piece a 70 speed 5 brake 3\n"
	for _, c := range []struct {
		text       string
		code, line int
	}{
		{p + "join a.0 a.1#", 0, 0},
		{p + "join a.0 a.1#1", 0, 0},
		{p + "join a.0 a.1#.2 b.0 c.0", 0, 0},
		{p + "join a.0 a.#1", 1, 2},
		{p + "join a.0 a#.1", 1, 2},
		{p + "join a.0 #a.1", 1, 2},
		{p + "join a.0#a.1", 1, 2},
		{p + "join a.0# a.1", 1, 2},
		{p + "joi#n a.0 a.1", 1, 2},
		{p + "join#", 1, 2},
		{p + "#join a.0 a.1", 7, 0},
		{p + " #join a.0 a.1", 7, 0},
		{p + "end a.0#.5\nend a.1# end a.0", 0, 0},
		{"piece a 1 speed 5 brake 3#00\njoin a.0 a.1", 0, 0},
		{"piece a 1 speed 5 brake #3\njoin a.0 a.1", 1, 1},
		{"piece a 1 speed 5 bra#ke 3\njoin a.0 a.1", 1, 1},
		{"piece a 1 speed 5 brake 0#3\njoin a.0 a.1", 2, 1},
		{"piece a#b 1 speed 5 brake 3\njoin a.0 a.1", 1, 1},
		{"pie#ce a 1 speed 5 brake 3\njoin a.0 a.1", 1, 1},
	} {
		holdTold(t, c.text, c.code, c.line)
	}
}

// A word is cut off by its remark, and what is left of it counts.
func TestWhatIsLeftAheadOfARemark(t *testing.T) {
	got := impl.ReadNet("piece a 70 speed 5 brake 30#00\njoin a.1 a.0#1\n")
	want := impl.Net{
		Pieces: []impl.Piece{{Name: "a", Len: 70, Speed: 5, Brake: 30}},
		Joints: []impl.Joint{plain(end(0, 1), end(0, 0))},
	}
	if got.Code != 0 || tell(got.Net) != tell(want) {
		t.Error(got)
	}
}

// Joints may stand ahead of pieces that they do not name; each list has the order of its lines.
func TestPiecesBetweenJoints(t *testing.T) {
	holdNet(t, lines(
		"piece b 5 speed 4 brake 3",
		"end b.1",
		"piece a 7 speed 2 brake 1",
		"switch w b.0 a.1 a.0",
		"piece c 8 speed 9 brake 6",
		"join c.1 c.0",
	), impl.Net{
		Pieces: []impl.Piece{{Name: "b", Len: 5, Speed: 4, Brake: 3}, {Name: "a", Len: 7, Speed: 2, Brake: 1}, {Name: "c", Len: 8, Speed: 9, Brake: 6}},
		Joints: []impl.Joint{buffer(end(0, 1)), fork("w", end(0, 0), end(1, 1), end(1, 0)), plain(end(2, 1), end(2, 0))},
	})
}
