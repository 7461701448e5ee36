package assemble

// kind is in which way an operation makes its bytes.
type kind int

const (
	nothing kind = iota // a label alone, and `.set`
	plain               // a code
	number              // a code, and an expression
	jump                // a code, and how far or where to
	data                // expressions, one at least
	space               // so many noughts
	align               // noughts, up to a multiple
)

// operation is one that makes bytes.
type operation struct {
	kind      kind
	registers int // how many of its operands are registers; they come first
	code      int // the first byte, if all its registers are r0
	longCode  int // the same of the long form
	width     int // in how many bytes each expression is
}

// operations are all that make bytes, by their names. Assemble does not read them: its answers hang on no variable, but on operationOf, which says the same.
var operations map[string]operation

func init() {
	operations = map[string]operation{
		"nop":    {kind: plain, code: 0},
		"ret":    {kind: plain, code: 161},
		"mov":    {kind: plain, registers: 2, code: 64},
		"add":    {kind: plain, registers: 2, code: 80},
		"sub":    {kind: plain, registers: 2, code: 96},
		"load":   {kind: number, registers: 1, code: 16, width: 1},
		"call":   {kind: number, code: 160, width: 2},
		"jmp":    {kind: jump, code: 128, longCode: 129, width: 2},
		"jz":     {kind: jump, registers: 1, code: 132, longCode: 136, width: 2},
		".byte":  {kind: data, width: 1},
		".word":  {kind: data, width: 2},
		".space": {kind: space},
		".align": {kind: align},
	}
}

// IsOperation tells whether there is an operation of that name that makes bytes.
func IsOperation(name string) bool {
	_, found := operations[name]
	return found
}

// operationOf answers the operation of that name that makes bytes, and whether there is one.
func operationOf(name string) (operation, bool) {
	switch name {
	case "nop":
		return operation{kind: plain, code: 0}, true
	case "ret":
		return operation{kind: plain, code: 161}, true
	case "mov":
		return operation{kind: plain, registers: 2, code: 64}, true
	case "add":
		return operation{kind: plain, registers: 2, code: 80}, true
	case "sub":
		return operation{kind: plain, registers: 2, code: 96}, true
	case "load":
		return operation{kind: number, registers: 1, code: 16, width: 1}, true
	case "call":
		return operation{kind: number, code: 160, width: 2}, true
	case "jmp":
		return operation{kind: jump, code: 128, longCode: 129, width: 2}, true
	case "jz":
		return operation{kind: jump, registers: 1, code: 132, longCode: 136, width: 2}, true
	case ".byte":
		return operation{kind: data, width: 1}, true
	case ".word":
		return operation{kind: data, width: 2}, true
	case ".space":
		return operation{kind: space}, true
	case ".align":
		return operation{kind: align}, true
	}
	return operation{}, false
}

// takes tells whether the operation can have so many operands.
func (o operation) takes(count int) bool {
	expressions := count - o.registers
	switch o.kind {
	case plain:
		return expressions == 0
	case data:
		return expressions >= 1
	}
	return expressions == 1
}
