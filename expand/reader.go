package expand

import (
	"strings"

	"mason/api"
	"mason/lines"
)

// reader is what lines come from, one behind the other: the text, or a macro that is called. Each has its own conditions.
type reader interface {
	more() bool
	read() (lines.Parts, api.Errno)
	depth() int
	passing() bool
	begin(passes bool)
	turn(parts lines.Parts) api.Errno
	finish(parts lines.Parts) api.Errno
}

// lineReader reads lines as they stand.
type lineReader struct {
	conditions
	lines []string
	taken int
}

func (r *lineReader) more() bool {
	return r.taken < len(r.lines)
}

func (r *lineReader) take() string {
	line := r.lines[r.taken]
	r.taken++
	return line
}

func (r *lineReader) read() (lines.Parts, api.Errno) {
	return lines.Read(r.take()), api.OK
}

// macroReader reads a macro's lines, with the operands of a call in the place of the parameters.
type macroReader struct {
	lineReader
	parameters, operands []string
}

// read leaves lines that are passed over as they stand, so that no operand can end a condition there and no `\` be wrong.
func (m *macroReader) read() (lines.Parts, api.Errno) {
	if m.passing() {
		return m.lineReader.read()
	}
	line, errno := m.fill(m.take())
	if errno != api.OK {
		return lines.Parts{}, errno
	}
	return lines.Read(line), api.OK
}

func (m *macroReader) fill(line string) (string, api.Errno) {
	var filled strings.Builder
	rest := line
	for {
		plain, behind, found := strings.Cut(rest, `\`)
		filled.WriteString(plain)
		if !found {
			break
		}
		which := longestAhead(m.parameters, behind)
		if which < 0 {
			return "", api.ErrOperand
		}
		filled.WriteString(m.operands[which])
		rest = behind[len(m.parameters[which]):]
	}
	if filled.Len() > api.MaxLine {
		return "", api.ErrText
	}
	return filled.String(), api.OK
}

// longestAhead answers which of the names is the longest with which text begins, -1 if it begins with none.
func longestAhead(names []string, text string) int {
	which := -1
	for i, name := range names {
		if strings.HasPrefix(text, name) && (which < 0 || len(name) > len(names[which])) {
			which = i
		}
	}
	return which
}
