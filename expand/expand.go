// Package expand does what macros and conditions say (P4).
package expand

import (
	"mason/api"
	"mason/expression"
	"mason/lines"
)

// expansion is what is known while the lines of one text are gone through.
type expansion struct {
	text   *lineReader
	macros []macro
	names  []api.Name
	within int // macros that are called and not at their end
	calls  int
	left   []api.Line
}

// Expand answers the lines that are left; or else an error, and the number of the line at which it is met.
func Expand(text string) ([]api.Line, api.Errno, int) {
	all, errno, number := lines.Split(text)
	if errno != api.OK {
		return nil, errno, number
	}
	e := &expansion{text: &lineReader{lines: all}}
	if errno := e.goThrough(e.text); errno != api.OK {
		return nil, errno, e.number()
	}
	return e.left, api.OK, 0
}

// number is that of the line of the text that was taken last: it stays where it is while a macro's lines are gone through, and at the text's end.
func (e *expansion) number() int {
	return e.text.taken
}

func (e *expansion) goThrough(r reader) api.Errno {
	for r.more() {
		parts, errno := r.read()
		if errno != api.OK {
			return errno
		}
		if errno = e.do(r, parts); errno != api.OK {
			return errno
		}
	}
	if r.depth() > 0 {
		return api.ErrNest
	}
	return api.OK
}

// do looks at the lines of conditions first, because those count where all others are passed over, too.
func (e *expansion) do(r reader, parts lines.Parts) api.Errno {
	switch parts.Operation {
	case ".if":
		return e.doIf(r, parts)
	case ".else":
		return r.turn(parts)
	case ".endif":
		return r.finish(parts)
	}
	if r.passing() {
		return api.OK
	}
	return e.doOther(parts)
}

func (e *expansion) doOther(parts lines.Parts) api.Errno {
	switch parts.Operation {
	case ".macro":
		return e.doMacro(parts)
	case ".end":
		return api.ErrNest
	case ".set":
		return e.doSet(parts)
	}
	if called := e.find(parts.Operation); called != nil {
		return e.doCall(called, parts)
	}
	return e.leave(parts)
}

func (e *expansion) doIf(r reader, parts lines.Parts) api.Errno {
	if r.depth() == api.MaxDeep {
		return api.ErrNest
	}
	if r.passing() {
		r.begin(true)
		return api.OK
	}
	if parts.Label != "" || len(parts.Operands) != 1 {
		return api.ErrOperand
	}
	value, errno := expression.Value(parts.Operands[0], 0, e.names)
	if errno != api.OK {
		return errno
	}
	r.begin(value == 0)
	return api.OK
}

func (e *expansion) doSet(parts lines.Parts) api.Errno {
	if parts.Label != "" || len(parts.Operands) != 2 {
		return api.ErrOperand
	}
	name := parts.Operands[0]
	if !expression.IsName(name) || e.hasValue(name) {
		return api.ErrName
	}
	value, errno := expression.Value(parts.Operands[1], 0, e.names)
	if errno != api.OK {
		return errno
	}
	e.names = append(e.names, api.Name{Name: name, Value: value})
	return e.leave(parts)
}

func (e *expansion) hasValue(name string) bool {
	for _, known := range e.names {
		if known.Name == name {
			return true
		}
	}
	return false
}

func (e *expansion) doMacro(parts lines.Parts) api.Errno {
	if e.within > 0 {
		return api.ErrNest
	}
	defined, errno := readHead(parts)
	if errno != api.OK {
		return errno
	}
	if e.find(defined.name) != nil {
		return api.ErrName
	}
	// The lines behind this one are the text's, because this is within no macro.
	defined.lines, errno = e.text.takeBody()
	e.macros = append(e.macros, defined)
	return errno
}

// find answers nil if there is no macro of that name.
func (e *expansion) find(name string) *macro {
	for i := range e.macros {
		if e.macros[i].name == name {
			return &e.macros[i]
		}
	}
	return nil
}

func (e *expansion) doCall(called *macro, parts lines.Parts) api.Errno {
	switch {
	case e.within == api.MaxDeep:
		return api.ErrNest
	case len(parts.Operands) != len(called.parameters):
		return api.ErrOperand
	case e.calls == api.MaxCalls:
		return api.ErrSize
	}
	if errno := e.leave(lines.Parts{Label: parts.Label}); errno != api.OK {
		return errno
	}
	e.calls++
	e.within++
	errno := e.goThrough(&macroReader{
		lineReader: lineReader{lines: called.lines},
		parameters: called.parameters,
		operands:   parts.Operands,
	})
	e.within--
	return errno
}

// leave passes over what says nothing, so that a call without a label and a line without words may be handed to it.
func (e *expansion) leave(parts lines.Parts) api.Errno {
	text := parts.Text()
	if text == "" {
		return api.OK
	}
	if len(e.left) == api.MaxLines {
		return api.ErrSize
	}
	e.left = append(e.left, api.Line{Text: text, From: e.number()})
	return api.OK
}
