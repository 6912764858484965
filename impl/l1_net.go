package impl

const (
	MaxPieces = 100
	MaxJoints = 120
	MaxName   = 20
	MaxLen    = 10000000
	MaxSpeed  = 10000
	MaxBrake  = 1000
)

const (
	JEnd    = 1
	JPlain  = 2
	JSwitch = 3
	JCross  = 4
)

// Piece is a piece of track, with its length, its limit of speed, and how much trains brake on it.
type Piece struct {
	Name  string
	Len   int
	Speed int
	Brake int
}

// End is one of the two ends of a piece, 0 or 1.
type End struct {
	Piece int
	Side  int
}

// Joint is where ends meet: a buffer (one), a plain joint (two), a switch (its tip, left, right), a crossing (two that go through, and two others).
type Joint struct {
	Kind int
	Name string
	Ends []End
}

// Net is a track.
type Net struct {
	Pieces []Piece
	Joints []Joint
}

// Fault is what is wrong with a net, and at which piece or joint.
type Fault struct {
	Code int
	At   int
}

// The codes of faults, in the order in which they are looked for.
const (
	faultSize  = 1
	faultPiece = 2
	faultJoint = 3
	faultName  = 4
	faultEnds  = 5
)

// kind is what the Kind of a joint stands for.
type kind interface {
	size() int
	named() bool
}

type buffer struct{}

func (buffer) size() int   { return 1 }
func (buffer) named() bool { return false }

type plain struct{}

func (plain) size() int   { return 2 }
func (plain) named() bool { return false }

type turnout struct{}

func (turnout) size() int   { return 3 }
func (turnout) named() bool { return true }

type crossing struct{}

func (crossing) size() int   { return 4 }
func (crossing) named() bool { return true }

// seat is where an end stands: the joint, the place among its ends, and how often it stands anywhere.
type seat struct {
	joint int
	place int
	times int
}

// NetOk is the first fault of a net, by its code, then by its place; the zero value when the net is right.
func NetOk(n Net) Fault {
	if !sizeOk(n) {
		return Fault{Code: faultSize}
	}
	if p := wrongPiece(n.Pieces); p >= 0 {
		return Fault{Code: faultPiece, At: p}
	}
	if j := wrongJoint(n); j >= 0 {
		return Fault{Code: faultJoint, At: j}
	}
	if j := wrongJointName(n.Joints); j >= 0 {
		return Fault{Code: faultName, At: j}
	}
	if p := wrongEnds(n); p >= 0 {
		return Fault{Code: faultEnds, At: p}
	}
	return Fault{}
}

// JointAt is the joint in which an end of a right net stands, else -1.
func JointAt(n Net, e End) int {
	s, ok := seatOf(n, e)
	if !ok {
		return -1
	}
	return s.joint
}

// Across is the ends to which one can come from an end over its joint.
func Across(n Net, e End) []End {
	s, ok := seatOf(n, e)
	if !ok {
		return nil
	}
	return over(n.Joints[s.joint], s.place)
}

func sizeOk(n Net) bool {
	return inRange(len(n.Pieces), 1, MaxPieces) && len(n.Joints) <= MaxJoints
}

func inRange(x, low, high int) bool {
	return low <= x && x <= high
}

// wrongPiece is the first piece that is not as it has to be, or -1.
func wrongPiece(pieces []Piece) int {
	names := map[string]int{}
	for p, piece := range pieces {
		if !pieceOk(piece) || names[piece.Name] > 0 {
			return p
		}
		names[piece.Name]++
	}
	return -1
}

func pieceOk(p Piece) bool {
	return nameOk(p.Name) &&
		inRange(p.Len, 1, MaxLen) &&
		inRange(p.Speed, 1, MaxSpeed) &&
		inRange(p.Brake, 1, MaxBrake)
}

func nameOk(name string) bool {
	if !inRange(len(name), 1, MaxName) {
		return false
	}
	for i := range len(name) {
		if !nameByte(name[i]) {
			return false
		}
	}
	return true
}

func nameByte(b byte) bool {
	return 'a' <= b && b <= 'z' || '0' <= b && b <= '9' || b == '_'
}

// wrongJoint is the first joint whose kind or ends are not as they have to be, or -1.
func wrongJoint(n Net) int {
	for j, joint := range n.Joints {
		if !jointOk(joint, len(n.Pieces)) {
			return j
		}
	}
	return -1
}

func jointOk(j Joint, pieces int) bool {
	k := kindOf(j.Kind)
	if k == nil || len(j.Ends) != k.size() {
		return false
	}
	for _, e := range j.Ends {
		if !inRange(e.Piece, 0, pieces-1) || !inRange(e.Side, 0, 1) {
			return false
		}
	}
	return true
}

// kindOf is nil for a number that is no Kind.
func kindOf(number int) kind {
	switch number {
	case JEnd:
		return buffer{}
	case JPlain:
		return plain{}
	case JSwitch:
		return turnout{}
	case JCross:
		return crossing{}
	}
	return nil
}

// wrongJointName is the first joint whose name is not as it has to be, or -1. Their kinds have to be right.
func wrongJointName(joints []Joint) int {
	names := map[string]int{}
	for j, joint := range joints {
		if !jointNameOk(joint) || names[joint.Name] > 0 {
			return j
		}
		// Joints without a name may be many: the empty name is never one that was there.
		if joint.Name != "" {
			names[joint.Name]++
		}
	}
	return -1
}

func jointNameOk(j Joint) bool {
	if kindOf(j.Kind).named() {
		return nameOk(j.Name)
	}
	return j.Name == ""
}

// wrongEnds is the first piece of which an end stands in no joint or more than once, or -1.
func wrongEnds(n Net) int {
	seats := seatsOf(n.Joints)
	for p := range n.Pieces {
		if seats[End{Piece: p, Side: 0}].times != 1 || seats[End{Piece: p, Side: 1}].times != 1 {
			return p
		}
	}
	return -1
}

func seatsOf(joints []Joint) map[End]seat {
	seats := map[End]seat{}
	for j, joint := range joints {
		for i, e := range joint.Ends {
			seats[e] = seat{joint: j, place: i, times: seats[e].times + 1}
		}
	}
	return seats
}

// seatOf is where an end of a right net stands; false when the net is not right or has no such end.
func seatOf(n Net, e End) (seat, bool) {
	if NetOk(n) != (Fault{}) {
		return seat{}, false
	}
	s, ok := seatsOf(n.Joints)[e]
	return s, ok
}

// over is the ends to which one comes over a joint from the end at a place of it. The joint has to be right.
func over(j Joint, place int) []End {
	switch kindOf(j.Kind).(type) {
	case plain:
		return []End{j.Ends[1-place]}
	case turnout:
		if place == 0 {
			return []End{j.Ends[1], j.Ends[2]}
		}
		return []End{j.Ends[0]}
	case crossing:
		// The places go by twos, 0 with 1 and 2 with 3: the last bit tells the two apart.
		return []End{j.Ends[place^1]}
	}
	return nil
}
