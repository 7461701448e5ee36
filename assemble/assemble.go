// Package assemble makes the lines of a program into bytes (P5).
package assemble

import (
	"mason/api"
	"mason/expand"
	"mason/lines"
)

// assembly is what is known while one program is made into bytes.
type assembly struct {
	lines      []api.Line
	statements []statement // of each line one
	names      []api.Name
	sets       []api.Name // those of `.set` alone
	size       int        // of all lines
	bytes      []byte
}

// Assemble answers the program of a text; or else an error, and the number of the line at which it is met.
func Assemble(text string) (api.Program, api.Errno, int) {
	left, errno, number := expand.Expand(text)
	if errno != api.OK {
		return api.Program{}, errno, number
	}
	a := &assembly{lines: left}
	if errno, number = a.lookAtLines(); errno != api.OK {
		return api.Program{}, errno, number
	}
	a.findAddresses()
	if a.size > api.MaxBytes {
		return api.Program{}, api.ErrSize, 0
	}
	if errno, number = a.makeAllBytes(); errno != api.OK {
		return api.Program{}, errno, number
	}
	return api.Program{Bytes: a.bytes, Lines: a.lines, Names: a.names}, api.OK, 0
}

func (a *assembly) lookAtLines() (api.Errno, int) {
	for _, line := range a.lines {
		if errno := a.look(lines.Read(line.Text)); errno != api.OK {
			return errno, line.From
		}
	}
	return api.OK, 0
}

func (a *assembly) makeAllBytes() (api.Errno, int) {
	for i, line := range a.lines {
		if errno := a.makeBytes(&a.statements[i], line); errno != api.OK {
			return errno, line.From
		}
	}
	return api.OK, 0
}
