package assemble

import (
	"mason/api"
	"mason/expression"
	"mason/lines"
)

// statement is what one line of the program says.
type statement struct {
	operation
	label       int // which of the names is the line's label, if it has one
	hasLabel    bool
	added       int // what the registers add to the code
	expressions []string
	count       int // the number of `.space` and `.align`
	isLong      bool
}

// look takes in what one line says, but for the numbers that hang on addresses.
func (a *assembly) look(parts lines.Parts) api.Errno {
	does, found := operationOf(parts.Operation)
	if !found && parts.Operation != "" && parts.Operation != ".set" {
		return api.ErrOp
	}
	if errno := a.define(parts); errno != api.OK {
		return errno
	}
	s := statement{operation: does}
	if parts.Label != "" {
		s.label, s.hasLabel = len(a.names)-1, true
	}
	if found {
		if errno := s.readOperands(parts.Operands, a.sets); errno != api.OK {
			return errno
		}
	}
	a.statements = append(a.statements, s)
	return api.OK
}

func (a *assembly) define(parts lines.Parts) api.Errno {
	if parts.Operation == ".set" {
		return a.set(parts.Operands[0], parts.Operands[1])
	}
	if parts.Label == "" {
		return api.OK
	}
	return a.add(api.Name{Name: parts.Label})
}

// set asks for no error of the value, because no line with one is left by Expand.
func (a *assembly) set(name, value string) api.Errno {
	reckoned, _ := expression.Value(value, 0, a.sets)
	defined := api.Name{Name: name, Value: reckoned}
	a.sets = append(a.sets, defined)
	return a.add(defined)
}

func (a *assembly) add(defined api.Name) api.Errno {
	for _, known := range a.names {
		if known.Name == defined.Name {
			return api.ErrName
		}
	}
	a.names = append(a.names, defined)
	return api.OK
}

func (s *statement) readOperands(operands []string, sets []api.Name) api.Errno {
	if !s.takes(len(operands)) {
		return api.ErrOperand
	}
	for _, word := range operands[:s.registers] {
		register, found := expression.Register(word)
		if !found {
			return api.ErrOperand
		}
		s.added = 4*s.added + register
	}
	s.expressions = operands[s.registers:]
	if s.kind == space || s.kind == align {
		return s.readCount(sets)
	}
	return api.OK
}

// readCount reckons with the names of `.set` alone, so that no size hangs on an address that hangs on it.
func (s *statement) readCount(sets []api.Name) api.Errno {
	count, errno := expression.Value(s.expressions[0], 0, sets)
	if errno != api.OK {
		return errno
	}
	if count < 0 || count > api.MaxBytes || s.kind == align && !isAlignment(count) {
		return api.ErrValue
	}
	s.count = count
	return api.OK
}

func isAlignment(count int) bool {
	switch count {
	case 1, 2, 4, 8, 16:
		return true
	}
	return false
}
