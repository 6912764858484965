package tests

import (
	"strconv"
	"strings"

	"loop.example/ballast/impl"
)

func end(piece, side int) impl.End { return impl.End{Piece: piece, Side: side} }

func piece(name string, length int) impl.Piece {
	return impl.Piece{Name: name, Len: length, Speed: 100, Brake: 10}
}

func buffer(e impl.End) impl.Joint { return impl.Joint{Kind: impl.JEnd, Ends: []impl.End{e}} }

func plain(a, b impl.End) impl.Joint {
	return impl.Joint{Kind: impl.JPlain, Ends: []impl.End{a, b}}
}

func fork(name string, tip, left, right impl.End) impl.Joint {
	return impl.Joint{Kind: impl.JSwitch, Name: name, Ends: []impl.End{tip, left, right}}
}

func crossing(name string, a, b, c, d impl.End) impl.Joint {
	return impl.Joint{Kind: impl.JCross, Name: name, Ends: []impl.End{a, b, c, d}}
}

// yard has every kind of joint: a buffer, a plain joint, two switches, a crossing, and buffers at what is left.
//
//	0 - a - 1 - b - w (left c, right d), c over x to e, d over x to f, e and f to v, v's tip - g - 6
func yard() impl.Net {
	return impl.Net{
		Pieces: []impl.Piece{
			piece("a", 100), piece("b", 20), piece("c", 30), piece("d", 40),
			piece("e", 50), piece("f", 60), piece("g", 70),
		},
		Joints: []impl.Joint{
			buffer(end(0, 0)),
			plain(end(0, 1), end(1, 0)),
			fork("w", end(1, 1), end(2, 0), end(3, 0)),
			crossing("x", end(2, 1), end(4, 0), end(3, 1), end(5, 0)),
			fork("v", end(6, 0), end(4, 1), end(5, 1)),
			buffer(end(6, 1)),
		},
	}
}

// shuttle is one piece between two buffers.
func shuttle(p impl.Piece) impl.Net {
	return impl.Net{Pieces: []impl.Piece{p}, Joints: []impl.Joint{buffer(end(0, 0)), buffer(end(0, 1))}}
}

// chains has so many pieces and so many joints, all of them buffers and plain joints; every end stands in just one.
func chains(pieces, joints int) impl.Net {
	n := impl.Net{}
	ends := []impl.End{}
	for p := range pieces {
		n.Pieces = append(n.Pieces, piece("p"+strconv.Itoa(p), 1+p))
		ends = append(ends, end(p, 0), end(p, 1))
	}
	for range 2*pieces - joints {
		n.Joints = append(n.Joints, plain(ends[0], ends[len(ends)-1]))
		ends = ends[1 : len(ends)-1]
	}
	for _, e := range ends {
		n.Joints = append(n.Joints, buffer(e))
	}
	return n
}

// tell writes a net out whole, so that two can be held against each other.
func tell(n impl.Net) string {
	var b strings.Builder
	for _, p := range n.Pieces {
		b.WriteString(strconv.Quote(p.Name))
		tellNumbers(&b, p.Len, p.Speed, p.Brake)
	}
	b.WriteByte('\n')
	for _, j := range n.Joints {
		b.WriteString(strconv.Quote(j.Name))
		tellNumbers(&b, j.Kind, len(j.Ends))
		for _, e := range j.Ends {
			tellNumbers(&b, e.Piece, e.Side)
		}
	}
	return b.String()
}

func tellNumbers(b *strings.Builder, numbers ...int) {
	for _, x := range numbers {
		b.WriteByte(' ')
		b.WriteString(strconv.Itoa(x))
	}
	b.WriteByte(';')
}
