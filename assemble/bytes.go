package assemble

import (
	"mason/api"
	"mason/expression"
)

// makeBytes puts the bytes of one line behind those of the lines ahead.
func (a *assembly) makeBytes(s *statement, line api.Line) api.Errno {
	switch s.kind {
	case plain, number:
		a.putByte(s.code + s.added)
		return a.putExpressions(s, line.At)
	case jump:
		return a.putJump(s, line.At)
	case data:
		return a.putExpressions(s, line.At)
	case space, align:
		a.bytes = append(a.bytes, make([]byte, line.Size)...)
	}
	return api.OK
}

func (a *assembly) putJump(s *statement, at int) api.Errno {
	if s.isLong {
		a.putByte(s.longCode + s.added)
		return a.putExpressions(s, at)
	}
	far, errno := a.howFar(s, at)
	if errno != api.OK {
		return errno
	}
	a.putByte(s.code + s.added)
	a.putByte(far)
	return api.OK
}

func (a *assembly) putExpressions(s *statement, at int) api.Errno {
	for _, text := range s.expressions {
		value, errno := expression.Value(text, at, a.names)
		if errno != api.OK {
			return errno
		}
		if errno = a.putNumber(value, s.width); errno != api.OK {
			return errno
		}
	}
	return api.OK
}

// putNumber takes what fits with a sign as well as what fits without one.
func (a *assembly) putNumber(value, width int) api.Errno {
	bits := 8 * width
	if value < -(1<<(bits-1)) || value >= 1<<bits {
		return api.ErrValue
	}
	for range width {
		a.putByte(value)
		value >>= 8
	}
	return api.OK
}

// putByte puts the number modulo 256.
func (a *assembly) putByte(number int) {
	a.bytes = append(a.bytes, byte(number))
}
