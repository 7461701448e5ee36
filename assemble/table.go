package assemble

// kind is in which way an operation makes its bytes.
type kind int

const (
	nothing kind = iota // a label alone, and `.set`
	plain               // a code
	number              // a code, and an expression
	jump                // a code, and how far or where to
	data                // expressions, one at least
	space               // so many noughts
	align               // noughts, up to a multiple
)

// operation is one that makes bytes.
type operation struct {
	kind      kind
	registers int // how many of its operands are registers; they come first
	code      int // the first byte, if all its registers are r0
	longCode  int // the same of the long form
	width     int // in how many bytes each expression is
}

// operations are all that make bytes, by their names.
var operations map[string]operation

func init() {
	operations = map[string]operation{
		"nop":    {kind: plain, code: 0},
		"ret":    {kind: plain, code: 161},
		"mov":    {kind: plain, registers: 2, code: 64},
		"add":    {kind: plain, registers: 2, code: 80},
		"sub":    {kind: plain, registers: 2, code: 96},
		"load":   {kind: number, registers: 1, code: 16, width: 1},
		"call":   {kind: number, code: 160, width: 2},
		"jmp":    {kind: jump, code: 128, longCode: 129, width: 2},
		"jz":     {kind: jump, registers: 1, code: 132, longCode: 136, width: 2},
		".byte":  {kind: data, width: 1},
		".word":  {kind: data, width: 2},
		".space": {kind: space},
		".align": {kind: align},
	}
}

// takes tells whether the operation can have so many operands.
func (o operation) takes(count int) bool {
	expressions := count - o.registers
	switch o.kind {
	case plain:
		return expressions == 0
	case data:
		return expressions >= 1
	}
	return expressions == 1
}
