package tests

import (
	"fmt"
	"strings"
	"testing"

	"loop.example/ballast/impl"
)

// Four pieces, a joint with a name, and an end that stands already.
var begun = lines(
	"piece a 7 speed 1 brake 1", "piece b 7 speed 1 brake 1", "piece c 7 speed 1 brake 1", "piece d 7 speed 1 brake 1",
	"switch w a.0 a.1 b.0",
)

func TestFirstFaultOfALine(t *testing.T) {
	for _, c := range []struct {
		line string
		code int
	}{
		// 1 ahead of 2
		{"piece a 07 speed 1 brake 1", 1}, {"piece a 7 speed 1 brake", 1}, {"piece e 0 speed 1 brake x", 1}, {"piece e 0 speed 01 brake 1", 1},
		{"piece e 10000001 speed 1 brakes 1", 1}, {"piece a 0 speed 0 brake 0 0", 1}, {"piece E 0 speed 1 brake 1", 1}, {"piece e 1 speed 0 brake 123456789", 1},
		// two of 2
		{"piece a 0 speed 1 brake 1", 2}, {"piece a 1 speed 0 brake 0", 2}, {"piece e 0 speed 99999999 brake 0", 2},
		// 1 ahead of 3
		{"end z", 1}, {"end z.2", 1}, {"join z.0 c", 1}, {"join c z.0", 1}, {"join z.0 c.2", 1}, {"join z.0", 1}, {"end z.0 z.1", 1}, {"switch W z.0 c.0 c.1", 1}, {"switch z.0 c.0 c.1", 1}, {"cross x z.0 c.0 c.1 d", 1},
		// 1 ahead of 5
		{"end a.0 a.0", 1}, {"join a.0 c", 1}, {"join c.2 a.0", 1}, {"join a.0 a.0 a.0", 1}, {"switch v a.0 a.0", 1}, {"switch V a.0 c.0 c.1", 1}, {"cross x a.0 a.0 a.0 a", 1},
		// 1 ahead of 4
		{"switch w c.0 c.1", 1}, {"switch w c.0 c.1 d", 1}, {"switch w c.0 c.1 d.0 d.1", 1}, {"cross w c.0 c.1 d.0", 1}, {"cross w c.0 c.1 d.0 d.2", 1}, {"switch w", 1},
		// 3 ahead of 5
		{"join a.0 z.0", 3}, {"join z.0 a.0", 3}, {"join z.0 z.0", 3}, {"switch v c.0 c.0 z.0", 3}, {"switch v z.0 c.0 c.0", 3}, {"cross x a.0 c.0 c.0 z.1", 3}, {"cross x z.1 a.0 c.0 c.0", 3},
		// 3 ahead of 4
		{"switch w z.0 c.0 c.1", 3}, {"switch w c.0 c.1 z.0", 3}, {"cross w c.0 c.1 d.0 z.1", 3},
		// 5 ahead of 4
		{"switch w a.0 c.0 c.1", 5}, {"switch w c.0 c.1 a.1", 5}, {"switch w c.0 c.0 c.1", 5}, {"cross w c.0 c.1 d.0 b.0", 5}, {"cross w c.0 d.1 d.0 d.0", 5},
		// three and four at once
		{"switch w z.0 a.0 c", 1}, {"switch w a.0 a.0 z.0", 3}, {"cross w a.0 z.0 a.0 c", 1}, {"cross w a.0 c.0 c.0 z.1", 3},
		// none
		{"cross x c.0 c.1 d.0 d.1", 7}, {"end b.1", 7},
		// alone
		{"switch w c.0 c.1 d.0", 4}, {"cross w c.0 c.1 d.0 d.1", 4}, {"end b.0", 5}, {"end z.0", 3},
	} {
		line := 6
		if c.code == 7 {
			line = 1
			if c.line == "end b.1" {
				line = 2
			}
		}
		holdTold(t, begun+c.line, c.code, line)
		holdTold(t, begun+c.line+"\n", c.code, line)
	}
}

func TestFirstFaultyLine(t *testing.T) {
	faulty := []struct {
		line string
		code int
	}{
		{"track", 1}, {"piece e 1 speed 1 brake 01", 1}, {"end c.2", 1},
		{"piece e 0 speed 1 brake 1", 2}, {"piece a 1 speed 1 brake 1", 2},
		{"end z.0", 3}, {"join c.0 z.1", 3},
		{"switch w c.0 c.1 d.0", 4}, {"cross w c.0 c.1 d.0 d.1", 4},
		{"end a.0", 5}, {"join c.1 c.1", 5},
	}
	for _, first := range faulty {
		for _, second := range faulty {
			holdTold(t, begun+first.line+"\n"+second.line+"\n", first.code, 6)
			holdTold(t, "# remark\n\n"+begun+" \t\n"+first.line+"\n\n"+second.line, first.code, 9)
			holdTold(t, begun+"end b.1\n"+first.line+"\njoin c.0 c.1\n"+second.line, first.code, 7)
		}
	}
}

// Whatever a faulty line would have told, the lines behind it do not count any more.
func TestLinesBehindDoNotMend(t *testing.T) {
	whole := impl.WriteNet(yard())
	for _, line := range []string{"end z.0", "track", "end a.2", "piece z 0 speed 1 brake 1"} {
		code := map[string]int{"end z.0": 3, "track": 1, "end a.2": 1, "piece z 0 speed 1 brake 1": 2}[line]
		all := strings.SplitAfter(whole, "\n")
		for i := range all {
			text := strings.Join(all[:i], "") + line + "\n" + strings.Join(all[i:], "") + "piece z 1 speed 1 brake 1\nend z.0\nend z.1\n"
			holdTold(t, text, code, i+1)
		}
	}
}

func TestLinesThatDoNotCountAreCounted(t *testing.T) {
	for _, ahead := range []struct {
		text  string
		lines int
	}{
		{"", 0}, {"\n", 1}, {"\n\n\n", 3}, {" \n\t\n \t \n", 3}, {"#\n", 1}, {"# a\n\n#b\n", 3}, {"\t#\n", 1}, {"##\n#\n", 2},
		{strings.Repeat("\n", 60000), 60000}, {strings.Repeat("#\n", 30000), 30000},
	} {
		holdTold(t, ahead.text+"track", 1, ahead.lines+1)
		holdTold(t, ahead.text+"piece a 0 speed 1 brake 1", 2, ahead.lines+1)
		holdTold(t, ahead.text+"end a.0\n", 3, ahead.lines+1)
		holdTold(t, begun+ahead.text+"switch w c.0 c.1 d.0", 4, ahead.lines+6)
		holdTold(t, begun+ahead.text+"end a.0", 5, ahead.lines+6)
		holdNet(t, ahead.text+spell(yard()), yard())
	}
}

func TestEndsInNoJoint(t *testing.T) {
	n := chains(100, 120)
	for j, joint := range n.Joints {
		open := chains(100, 120)
		open.Joints = append(open.Joints[:j:j], open.Joints[j+1:]...)
		first := joint.Ends[0].Piece
		for _, e := range joint.Ends {
			first = min(first, e.Piece)
		}
		holdTold(t, spell(open), 7, first)
	}
	p := lines("piece a 7 speed 1 brake 1", "piece b 7 speed 1 brake 1", "", "piece c 7 speed 1 brake 1 # the last one")
	for joints, piece := range map[string]int{
		"":                                     0,
		"end a.0":                              0,
		"end a.1":                              0,
		"join a.0 a.1":                         1,
		"join a.1 a.0\nend b.0":                1,
		"join a.1 a.0\nend b.1":                1,
		"join b.1 b.0\njoin c.0 c.1":           0,
		"join b.1 b.0\njoin c.0 c.1\nend a.1":  0,
		"cross x a.0 b.0 a.1 b.1":              2,
		"cross x a.0 b.0 a.1 c.1\nend c.0":     1,
		"switch w a.0 b.0 c.0\njoin a.1 b.1":   2,
		"end c.1\nend b.0\nend a.1\nend b.1":   0,
		"end c.0\nend b.0\njoin a.1 a.0":       1,
		"end c.0\nend b.0\nend b.1\nend a.0":   0,
		"join b.1 c.0\nend a.0\nend b.0 # a.1": 0,
	} {
		holdTold(t, p+joints, 7, piece)
		holdTold(t, p+joints+"\n\n", 7, piece)
	}
}

func TestNetsOfTheWrongSize(t *testing.T) {
	for _, text := range []string{"", "\n", " ", "\t", "#", "# remark\n\n", "\n\n\n", strings.Repeat(" ", impl.MaxText)} {
		holdTold(t, text, 6, 0)
	}
	open := func(pieces, joints, told int) string {
		n := chains(pieces, joints)
		n.Joints = n.Joints[len(n.Joints)-told:]
		return spell(n)
	}
	for text, want := range map[string][2]int{
		spell(chains(100, 120)): {0, 0},
		spell(chains(101, 120)): {6, 0},
		spell(chains(61, 121)):  {6, 0},
		spell(chains(100, 121)): {6, 0},
		spell(chains(101, 121)): {6, 0},
		spell(chains(500, 500)): {6, 0},
		// Too many, and ends in no joint: the size is looked for ahead.
		open(101, 101, 0):   {6, 0},
		open(101, 101, 100): {6, 0},
		open(100, 122, 121): {6, 0},
		open(100, 121, 120): {7, 0},
		open(100, 100, 0):   {7, 0},
	} {
		holdTold(t, text, want[0], want[1])
	}
	// A line that is wrong is told ahead of the size.
	holdTold(t, spell(chains(101, 121))+"track", 1, 223)
	holdTold(t, spell(chains(101, 121))+"end p100.0", 5, 223)
	holdTold(t, spell(chains(101, 121))+"piece p100 1 speed 1 brake 1", 2, 223)
	holdTold(t, spell(chains(101, 121))+"end q.0", 3, 223)
}

func TestLongTexts(t *testing.T) {
	right := spell(yard())
	pad := func(text string, to int, with string) string { return text + strings.Repeat(with, to-len(text)) }
	for _, with := range []string{" ", "\t", "\n", "#"} {
		holdNet(t, pad(right, impl.MaxText-1, with), yard())
		holdNet(t, pad(right, impl.MaxText, with), yard())
		holdTold(t, pad(right, impl.MaxText+1, with), 6, 0)
		holdTold(t, pad(right, 10*impl.MaxText, with), 6, 0)
		// Ahead of all else.
		holdTold(t, pad("track\n", impl.MaxText, with), 1, 1)
		holdTold(t, pad("track\n", impl.MaxText+1, with), 6, 0)
		holdTold(t, pad(begun+"end a.0\n", impl.MaxText, with), 5, 6)
		holdTold(t, pad(begun+"end a.0\n", impl.MaxText+1, with), 6, 0)
		holdTold(t, pad(begun, impl.MaxText, with), 7, 1)
		holdTold(t, pad(begun, impl.MaxText+1, with), 6, 0)
	}
	holdTold(t, strings.Repeat("\n", impl.MaxText-1)+"x", 1, impl.MaxText)
	holdTold(t, strings.Repeat("x", impl.MaxText), 1, 1)
	holdTold(t, strings.Repeat("x", impl.MaxText+1), 6, 0)
	holdTold(t, strings.Repeat("x ", impl.MaxText/2), 1, 1)
	holdTold(t, "end "+strings.Repeat("x", impl.MaxText-6)+".0", 1, 1)
	// As many bytes, not as many letters.
	holdTold(t, "#"+strings.Repeat("é", impl.MaxText/2), 6, 0)
	many := ""
	for p := 0; len(many) < impl.MaxText-40; p++ {
		many += fmt.Sprintf("piece p%d 1 speed 1 brake 1\n", p)
	}
	holdTold(t, many, 6, 0)
}
