// Package mason: texts of operations, made into bytes: see DOC.md.
package mason

import (
	"mason/api"
	"mason/assemble"
	"mason/expand"
	"mason/expression"
)

// Value reckons an expression (P2).
func Value(expr string, at int, names []api.Name) (int, api.Errno) {
	return expression.Value(expr, at, names)
}

// Expand does what macros and conditions say; what is left are lines of operations (P4).
func Expand(text string) ([]api.Line, api.Errno, int) {
	return expand.Expand(text)
}

// Assemble makes a text into bytes (P5).
func Assemble(text string) (api.Program, api.Errno, int) {
	return assemble.Assemble(text)
}
