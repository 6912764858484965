package tests

import (
	"strings"
	"testing"

	"loop.example/ballast/impl"
)

// holdForm asks for a code of one line, alone at the end of a text whose other lines are well.
func holdForm(t *testing.T, code int, all ...string) {
	t.Helper()
	ahead := lines("", "# two pieces", "piece a 7 speed 1 brake 1", "piece b 7 speed 1 brake 1")
	for _, line := range all {
		holdTold(t, ahead+line, code, 5)
		holdTold(t, ahead+line+"\n", code, 5)
		holdTold(t, ahead+"\n\n"+line+"\nend a.0\n", code, 7)
		holdTold(t, ahead+"\t"+line+" # remark\nend", code, 5)
	}
}

func TestLinesThatAreNone(t *testing.T) {
	holdForm(t, 1,
		"track", "x", ".", "0", "Piece", "piec", "pieces", "ends", "END a.0", "joint a.0 a.1", "Switch w a.0 a.1 b.0", "crossing x a.0 a.1 b.0 b.1",
		"a.0 end", "a end a.0", "speed 1 brake 1", "\r", "end\ra.0", "end a.0\r", "end\va.0", "end\u00a0a.0", "\ufeffend a.0", "end\x00a.0", "\xff",
	)
}

func TestFormOfPieces(t *testing.T) {
	holdForm(t, 1,
		"piece", "piece c", "piece c 7", "piece c 7 speed", "piece c 7 speed 1", "piece c 7 speed 1 brake",
		"piece c 7 speed 1 brake 1 1", "piece c 7 speed 1 brake 1 c", "piece c 7 speed 1 brake 1 brake 1",
		"piece 7 speed 1 brake 1", "piece c speed 1 brake 1", "piece c 7 1 brake 1", "piece c 7 speed brake 1", "piece c 7 speed 1 1",
		"piece c 7 brake 1 speed 1", "piece c 7 Speed 1 brake 1", "piece c 7 speed 1 Brake 1", "piece c 7 speeds 1 brake 1", "piece c 7 speed 1 brak 1",
		"piece 7 c speed 1 brake 1", "c piece 7 speed 1 brake 1", "piece c 7 speed 1 brake speed", "piece c speed 7 1 brake 1",
		"piecec 7 speed 1 brake 1", "piece c 7speed 1 brake 1 1", "piece c 7 speed=1 brake=1",
	)
}

// noNumbers are words that are no LEN, SPEED or BRAKE.
func noNumbers() []string {
	return []string{
		"00", "01", "07", "00000001", "000000000", "010000000", "123456789", "100000000", "99999999999999999999999999",
		"18446744073709551617", "-1", "+1", "-0", "1.0", ".1", "1.", "1e3", "0x1", "1_0", "1,0", "a", "1a", "a1", "_", "/", ":", "1/", "1:", "1\r",
		"\u0661", "\uff11", "1\xff", "\x00", "1\x00",
	}
}

func TestNumbers(t *testing.T) {
	for _, word := range noNumbers() {
		holdForm(t, 1, "piece c "+word+" speed 1 brake 1", "piece c 1 speed "+word+" brake 1", "piece c 1 speed 1 brake "+word)
	}
	for _, word := range []string{"0", "99999999", "10000001", "20000000"} {
		holdForm(t, 2, "piece c "+word+" speed 1 brake 1", "piece c 1 speed "+word+" brake 1", "piece c 1 speed 1 brake "+word)
	}
	holdForm(t, 2, "piece c 1 speed 10001 brake 1", "piece c 1 speed 99999 brake 1", "piece c 1 speed 1 brake 1001", "piece c 1 speed 1 brake 10000")
	for _, p := range []impl.Piece{
		{Name: "c", Len: 1, Speed: 1, Brake: 1},
		{Name: "c", Len: 10000000, Speed: 10000, Brake: 1000},
		{Name: "c", Len: 9, Speed: 8, Brake: 7},
		{Name: "c", Len: 9876543, Speed: 2109, Brake: 876},
		{Name: "c", Len: 10, Speed: 100, Brake: 20},
	} {
		holdNet(t, spell(shuttle(p)), shuttle(p))
	}
}

// noNames are words that are no NAME.
func noNames() []string {
	return []string{
		strings.Repeat("a", 21), strings.Repeat("a", 22), strings.Repeat("_", 2000), "A", "aB", "a-b", "a.b", ".", "a.", ".a", "a/", "a:", "a`", "a{", "-", "é", "a\xff", "\x00", "a\r", "a@", "a[",
	}
}

func TestNamesInTexts(t *testing.T) {
	for _, word := range noNames() {
		holdForm(t, 1,
			"piece "+word+" 1 speed 1 brake 1",
			"switch "+word+" a.0 a.1 b.0", "cross "+word+" a.0 a.1 b.0 b.1",
			"end "+word+".0", "end "+word+".1", "join a.0 "+word+".1", "join "+word+".0 a.0",
			"switch w "+word+".0 a.0 a.1", "switch w a.0 a.1 "+word+".0", "cross x a.0 a.1 b.0 "+word+".1",
		)
	}
	for name, right := range names() {
		n := yard()
		n.Pieces[2].Name = name
		n.Joints[2].Name = name
		if right {
			holdNet(t, spell(n), n)
		}
	}
	longest := strings.Repeat("a", 20)
	holdForm(t, 3, "end "+longest+".0", "end _.1", "end 0.0")
}

func TestFormOfJoints(t *testing.T) {
	holdForm(t, 1,
		"end", "end a.0 a.1", "end w a.0", "end a.0 w",
		"join", "join a.0", "join a.0 a.1 b.0", "join w a.0 a.1", "join a.0 a.1 w", "join a.0a.1", "join a.0,a.1",
		"switch", "switch w", "switch w a.0", "switch w a.0 a.1", "switch w a.0 a.1 b.0 b.1", "switch a.0 a.1 b.0", "switch a.0 w a.1 b.0", "switch a.0 a.1 b.0 b.1", "switch w v a.0 a.1",
		"cross", "cross x", "cross x a.0", "cross x a.0 a.1", "cross x a.0 a.1 b.0", "cross x a.0 a.1 b.0 b.1 c.0", "cross a.0 a.1 b.0 b.1", "cross a.0 a.1 b.0 b.1 x", "cross x a.0 y b.0 b.1",
	)
}

func TestFormOfEnds(t *testing.T) {
	for _, word := range []string{
		"a", "a0", "a.", ".0", ".", "..", "0.", "a..0", "a.0.", ".a.0", "a.0.0", "a.0.1", "a.a.0", "a.2", "a.3", "a.9", "a.-1", "a.-0", "a.+1", "a.00", "a.01", "a.10", "a.11", "a.a", "a.0a", "a.0\r",
		"a,0", "a:0", "0.a", "A.0", "a.O", "a.l", "a./", "a.\x00", "a.\u0660", "a.0\xff",
	} {
		holdForm(t, 1, "end "+word, "join "+word+" b.0", "join b.0 "+word, "switch w "+word+" b.0 b.1", "switch w b.0 "+word+" b.1", "switch w b.0 b.1 "+word)
		holdForm(t, 1, "cross x "+word+" a.1 b.0 b.1", "cross x a.1 "+word+" b.0 b.1", "cross x a.1 b.0 "+word+" b.1", "cross x a.1 b.0 b.1 "+word)
	}
}

func TestPiecesThatWereThere(t *testing.T) {
	holdForm(t, 2, "piece a 7 speed 1 brake 1", "piece b 7 speed 1 brake 1", "piece a 8 speed 9 brake 10", "piece a 0 speed 1 brake 1")
	// The name of a joint is none of a piece.
	holdTold(t, lines("piece a 7 speed 1 brake 1", "piece b 7 speed 1 brake 1", "switch w a.0 b.0 b.1", "piece w 7 speed 1 brake 1", "join w.0 a.1", "end w.1"), 0, 0)
}

func TestPiecesInNoLineAhead(t *testing.T) {
	holdForm(t, 3,
		"end c.0", "end c.1", "end aa.0", "end ab.1", "end 0.0", "join a.0 c.0", "join c.0 a.0", "join c.0 c.1",
		"switch w c.0 a.0 a.1", "switch w a.0 c.0 a.1", "switch w a.0 a.1 c.0", "switch w c.0 d.0 e.0", "switch a w.0 b.0 b.1",
		"cross x c.0 a.0 a.1 b.0", "cross x a.0 c.0 a.1 b.0", "cross x a.0 a.1 c.0 b.0", "cross x a.0 a.1 b.0 c.0",
	)
	p := "piece c 7 speed 1 brake 1"
	holdTold(t, lines("end c.0", p, "end c.1"), 3, 1)
	holdTold(t, lines("", "end c.0 # ahead", p, "end c.1"), 3, 2)
	holdTold(t, lines("# "+p, "end c.0", "end c.1"), 3, 2)
	holdTold(t, lines(p, "join c.0 d.1", "piece d 7 speed 1 brake 1", "join c.1 d.0"), 3, 2)
	holdTold(t, lines(p, "end c.0", "piece d 7 speed 1 brake 1", "join c.1 d.0", "end d.1"), 0, 0)
	// The name of a joint ahead is no piece.
	holdTold(t, lines(p, "piece d 7 speed 1 brake 1", "switch w c.0 d.0 d.1", "end w.0"), 3, 4)
}

func TestEndsThatWereThere(t *testing.T) {
	holdForm(t, 5,
		"join a.0 a.0", "join b.1 b.1", "switch w a.0 a.0 b.0", "switch w a.0 b.0 a.0", "switch w b.0 a.0 a.0", "switch w a.1 a.1 a.1",
		"cross x a.0 a.0 b.0 b.1", "cross x a.0 b.0 a.0 b.1", "cross x a.0 b.0 b.1 a.0", "cross x b.0 a.0 a.0 b.1", "cross x b.0 a.0 b.1 a.0", "cross x b.0 b.1 a.0 a.0",
	)
	ahead := lines("piece a 7 speed 1 brake 1", "piece b 7 speed 1 brake 1", "piece c 7 speed 1 brake 1")
	for _, first := range []string{"end a.0", "join a.0 b.0", "join b.0 a.0", "switch w a.0 b.0 b.1", "switch w b.0 a.0 b.1", "switch w b.0 b.1 a.0", "cross x a.0 a.1 b.0 b.1", "cross x a.1 b.0 b.1 a.0"} {
		for _, second := range []string{"end a.0", "join a.0 c.0", "join c.0 a.0", "switch v a.0 c.0 c.1", "switch v c.0 a.0 c.1", "switch v c.0 c.1 a.0"} {
			holdTold(t, ahead+first+"\n"+second, 5, 5)
			holdTold(t, ahead+first+"\n\n# remark\n"+second+"\n", 5, 7)
			holdTold(t, ahead+first+"\nend c.0#\n"+strings.ReplaceAll(second, "c.0", "c.1"), 5, 6)
		}
	}
	holdTold(t, ahead+"join a.0 a.1\njoin b.0 b.1\njoin c.0 c.1\n", 0, 0)
}

func TestJointNamesThatWereThere(t *testing.T) {
	ahead := lines("piece a 7 speed 1 brake 1", "piece b 7 speed 1 brake 1", "piece c 7 speed 1 brake 1", "piece d 7 speed 1 brake 1")
	for _, first := range []string{"switch w a.0 a.1 b.0", "cross w a.0 a.1 b.0 b.1"} {
		for _, second := range []string{"switch w c.0 c.1 d.0", "cross w c.0 c.1 d.0 d.1"} {
			holdTold(t, ahead+first+"\n"+second, 4, 6)
			holdTold(t, ahead+first+"\n\n"+second+" # again\n", 4, 7)
		}
	}
	// The name of a piece is none of a joint.
	holdTold(t, ahead+"cross a a.0 a.1 b.0 b.1\ncross b c.0 c.1 d.0 d.1\n", 0, 0)
	holdTold(t, ahead+"cross ww a.0 a.1 b.0 b.1\ncross w c.0 c.1 d.0 d.1\n", 0, 0)
}
