package expand

import (
	"slices"

	"mason/api"
	"mason/expression"
	"mason/lines"
)

type macro struct {
	name       string
	parameters []string
	lines      []string
}

// readHead answers the macro that the line of a `.macro` begins, still without its lines.
func readHead(parts lines.Parts) (macro, api.Errno) {
	if parts.Label != "" || len(parts.Operands) == 0 {
		return macro{}, api.ErrOperand
	}
	for _, operand := range parts.Operands {
		if !expression.IsName(operand) {
			return macro{}, api.ErrOperand
		}
	}
	head := macro{name: parts.Operands[0], parameters: parts.Operands[1:]}
	for i, parameter := range head.parameters {
		if slices.Contains(head.parameters[:i], parameter) {
			return macro{}, api.ErrOperand
		}
	}
	return head, api.OK
}

// takeBody takes a macro's lines, and its `.end`.
func (r *lineReader) takeBody() ([]string, api.Errno) {
	var body []string
	for r.more() {
		line := r.take()
		switch parts := lines.Read(line); parts.Operation {
		case ".macro":
			return nil, api.ErrNest
		case ".end":
			return body, needBare(parts)
		}
		body = append(body, lines.WithoutRemark(line))
	}
	return nil, api.ErrNest
}
