package assemble

import (
	"mason/api"
	"mason/expression"
)

// The sizes of a jump's two forms, and how far the short one goes.
const (
	shortSize = 2
	longSize  = 3
	farBack   = -128
	farAhead  = 127
)

// findAddresses ends, because a jump that is long stays so.
func (a *assembly) findAddresses() {
	a.place()
	for a.lengthen() {
		a.place()
	}
}

// place gives all lines and labels the addresses that they have by the sizes of now.
func (a *assembly) place() {
	address := 0
	for i, s := range a.statements {
		if s.hasLabel {
			a.names[s.label].Value = address
		}
		a.lines[i].At, a.lines[i].Size = address, s.size(address)
		address += a.lines[i].Size
	}
	a.size = address
}

func (s *statement) size(address int) int {
	switch s.kind {
	case plain:
		return 1
	case number:
		return 1 + s.width
	case jump:
		if s.isLong {
			return longSize
		}
		return shortSize
	case data:
		return s.width * len(s.expressions)
	case space:
		return s.count
	case align:
		return (s.count - address%s.count) % s.count
	}
	return 0
}

// lengthen makes all short jumps long that do not fit, and tells whether there were any. No address changes meanwhile, so that none of them sees another become long.
func (a *assembly) lengthen() bool {
	found := false
	for i := range a.statements {
		s := &a.statements[i]
		if s.kind == jump && !s.isLong && !a.fits(s, a.lines[i].At) {
			s.isLong, found = true, true
		}
	}
	return found
}

// fits counts a jump whose expression has an error as one that fits: the error is told when bytes are made.
func (a *assembly) fits(s *statement, at int) bool {
	far, errno := a.howFar(s, at)
	return errno != api.OK || far >= farBack && far <= farAhead
}

func (a *assembly) howFar(s *statement, at int) (int, api.Errno) {
	to, errno := expression.Value(s.expressions[0], at, a.names)
	if errno != api.OK {
		return 0, errno
	}
	return to - (at + shortSize), api.OK
}
