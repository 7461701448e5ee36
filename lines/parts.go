// Package lines knows what the lines of a text are, and of what parts a line is (P3).
package lines

import (
	"strings"

	"mason/expression"
)

// Parts are what a line says; a part that it does not have is nothing.
type Parts struct {
	Label, Operation string
	Operands         []string
}

// WithoutRemark answers what stands ahead of the first `;`.
func WithoutRemark(line string) string {
	said, _, _ := strings.Cut(line, ";")
	return said
}

// Read answers the parts of a line.
func Read(line string) Parts {
	var parts Parts
	word, rest := cutWord(WithoutRemark(line))
	if label, marked := strings.CutSuffix(word, ":"); marked && expression.IsName(label) {
		parts.Label = label
		word, rest = cutWord(rest)
	}
	parts.Operation = word
	if behind := strings.ReplaceAll(rest, " ", ""); behind != "" {
		parts.Operands = strings.Split(behind, ",")
	}
	return parts
}

// cutWord answers the first word of text, and what stands behind it.
func cutWord(text string) (string, string) {
	word, rest, _ := strings.Cut(strings.TrimLeft(text, " "), " ")
	return word, rest
}

// IsBare tells whether there is neither a label nor an operand.
func (p Parts) IsBare() bool {
	return p.Label == "" && len(p.Operands) == 0
}

// Text answers the line that has these parts and no more blanks than it needs. It is built anew, because a piece of the line that was read would keep all of the text.
func (p Parts) Text() string {
	var text strings.Builder
	if p.Label != "" {
		text.WriteString(p.Label)
		text.WriteString(":")
	}
	if p.Label != "" && p.Operation != "" {
		text.WriteString(" ")
	}
	text.WriteString(p.Operation)
	for i, operand := range p.Operands {
		text.WriteString(between(i))
		text.WriteString(operand)
	}
	return text.String()
}

// between answers what stands ahead of the operand with this number, counted from 0.
func between(i int) string {
	if i == 0 {
		return " "
	}
	return ","
}
