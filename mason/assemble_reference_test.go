package mason_test

import (
	"fmt"
	"math/rand/v2"
	"regexp"
	"slices"
	"strings"
	"testing"

	"mason/api"
	"mason/mason"
)

// The slow reading of programs takes operands by patterns, keeps which jumps are long apart from the lines, and reckons all addresses anew whenever it asks for one.
type slowProgram struct {
	lines []api.Line
	reads []slowLine
	sets  map[int]api.Name // by the line
	long  map[int]bool
}

var operandForms = map[string]*regexp.Regexp{
	"":       regexp.MustCompile(`^$`),
	".set":   regexp.MustCompile(``),
	"nop":    regexp.MustCompile(`^$`),
	"ret":    regexp.MustCompile(`^$`),
	"mov":    regexp.MustCompile(`^r[0-3],r[0-3]$`),
	"add":    regexp.MustCompile(`^r[0-3],r[0-3]$`),
	"sub":    regexp.MustCompile(`^r[0-3],r[0-3]$`),
	"load":   regexp.MustCompile(`^r[0-3],[^,]*$`),
	"call":   regexp.MustCompile(`^[^,]+$`),
	"jmp":    regexp.MustCompile(`^[^,]+$`),
	"jz":     regexp.MustCompile(`^r[0-3],[^,]*$`),
	".byte":  regexp.MustCompile(`.`),
	".word":  regexp.MustCompile(`.`),
	".space": regexp.MustCompile(`^[^,]+$`),
	".align": regexp.MustCompile(`^[^,]+$`),
}

func slowAssemble(text string) (program api.Program, errno api.Errno, number int) {
	left, errno, number := slowExpand(text)
	if errno != api.OK {
		return api.Program{}, errno, number
	}
	s := &slowProgram{lines: left, sets: map[int]api.Name{}, long: map[int]bool{}}
	defer func() {
		switch caught := recover().(type) {
		case nil:
		case slowFault:
			program, errno = api.Program{}, caught.errno
		default:
			panic(caught)
		}
	}()
	for i, line := range left {
		number = line.From
		s.reads = append(s.reads, slowRead(line.Text))
		s.look(i)
	}
	number = 0
	s.lengthen()
	fault(api.ErrSize, s.address(len(left)) > api.MaxBytes)
	for i, line := range left {
		number = line.From
		left[i].At, left[i].Size = s.address(i), s.size(i, s.address(i))
		program.Bytes = append(program.Bytes, s.made(i)...)
	}
	return api.Program{Bytes: program.Bytes, Lines: left, Names: s.names()}, api.OK, 0
}

func (s *slowProgram) look(i int) {
	read := s.reads[i]
	form, known := operandForms[read.operation]
	fault(api.ErrOp, !known)
	defined := s.defined(i)
	for earlier := range i {
		fault(api.ErrName, defined != "" && s.defined(earlier) == defined)
	}
	fault(api.ErrOperand, !form.MatchString(strings.Join(read.operands, ",")))
	switch read.operation {
	case ".set":
		value, _ := slowValue(read.operands[1], 0, s.setNames(i))
		s.sets[i] = api.Name{Name: defined, Value: value}
	case ".space":
		value := s.count(i)
		fault(api.ErrValue, value < 0 || value > api.MaxBytes)
	case ".align":
		fault(api.ErrValue, !slices.Contains([]int{1, 2, 4, 8, 16}, s.count(i)))
	}
}

func (s *slowProgram) defined(i int) string {
	if s.reads[i].operation == ".set" {
		return s.reads[i].operands[0]
	}
	return s.reads[i].label
}

func (s *slowProgram) setNames(before int) (names []api.Name) {
	for i := range before {
		if name, found := s.sets[i]; found {
			names = append(names, name)
		}
	}
	return names
}

func (s *slowProgram) count(i int) int {
	value, errno := slowValue(s.reads[i].operands[0], 0, s.setNames(i))
	fault(errno, errno != api.OK)
	return value
}

func (s *slowProgram) size(i, at int) int {
	switch read := s.reads[i]; read.operation {
	case "", ".set":
		return 0
	case "load":
		return 2
	case "call":
		return 3
	case "jmp", "jz":
		if s.long[i] {
			return 3
		}
		return 2
	case ".byte":
		return len(read.operands)
	case ".word":
		return 2 * len(read.operands)
	case ".space":
		return s.count(i)
	case ".align":
		size := 0
		for (at+size)%s.count(i) != 0 {
			size++
		}
		return size
	}
	return 1
}

func (s *slowProgram) address(i int) int {
	at := 0
	for earlier := range i {
		at += s.size(earlier, at)
	}
	return at
}

func (s *slowProgram) names() (names []api.Name) {
	at := 0
	for i, read := range s.reads {
		if read.label != "" {
			names = append(names, api.Name{Name: read.label, Value: at})
		}
		if set, found := s.sets[i]; found {
			names = append(names, set)
		}
		at += s.size(i, at)
	}
	return names
}

func (s *slowProgram) isJump(i int) bool {
	return s.reads[i].operation == "jmp" || s.reads[i].operation == "jz"
}

// far answers how far a jump would go in its short form.
func (s *slowProgram) far(i int) (int, api.Errno) {
	operands := s.reads[i].operands
	to, errno := slowValue(operands[len(operands)-1], s.address(i), s.names())
	return to - s.address(i) - 2, errno
}

func (s *slowProgram) lengthen() {
	for {
		var tooFar []int
		for i := range s.reads {
			if s.isJump(i) && !s.long[i] {
				if far, errno := s.far(i); errno == api.OK && int(int8(far)) != far {
					tooFar = append(tooFar, i)
				}
			}
		}
		if tooFar == nil {
			return
		}
		for _, i := range tooFar {
			s.long[i] = true
		}
	}
}

func (s *slowProgram) inBytes(i, operand, low, high, width int) []byte {
	value, errno := slowValue(s.reads[i].operands[operand], s.address(i), s.names())
	fault(errno, errno != api.OK)
	fault(api.ErrValue, value < low || value > high)
	return []byte{byte(value), byte(value >> 8)}[:width]
}

func (s *slowProgram) oneByte(i, operand int) []byte  { return s.inBytes(i, operand, -128, 255, 1) }
func (s *slowProgram) twoBytes(i, operand int) []byte { return s.inBytes(i, operand, -32768, 65535, 2) }

func (s *slowProgram) register(i, operand int) byte { return s.reads[i].operands[operand][1] - '0' }

func (s *slowProgram) made(i int) (made []byte) {
	switch read := s.reads[i]; read.operation {
	case "nop":
		return []byte{0}
	case "ret":
		return []byte{161}
	case "mov":
		return []byte{64 + 4*s.register(i, 0) + s.register(i, 1)}
	case "add":
		return []byte{80 + 4*s.register(i, 0) + s.register(i, 1)}
	case "sub":
		return []byte{96 + 4*s.register(i, 0) + s.register(i, 1)}
	case "load":
		return append([]byte{16 + s.register(i, 0)}, s.oneByte(i, 1)...)
	case "call":
		return append([]byte{160}, s.twoBytes(i, 0)...)
	case "jmp":
		return s.madeOfJump(i, 0, 128, 129)
	case "jz":
		return s.madeOfJump(i, 1, 132+s.register(i, 0), 136+s.register(i, 0))
	case ".byte":
		for operand := range read.operands {
			made = append(made, s.oneByte(i, operand)...)
		}
	case ".word":
		for operand := range read.operands {
			made = append(made, s.twoBytes(i, operand)...)
		}
	case ".space", ".align":
		return make([]byte, s.size(i, s.address(i)))
	}
	return made
}

func (s *slowProgram) madeOfJump(i, operand int, short, long byte) []byte {
	if s.long[i] {
		return append([]byte{long}, s.twoBytes(i, operand)...)
	}
	far, errno := s.far(i)
	fault(errno, errno != api.OK)
	return []byte{short, byte(far)}
}

func sameProgram(a, b api.Program) bool {
	return slices.Equal(a.Bytes, b.Bytes) && slices.Equal(a.Lines, b.Lines) && slices.Equal(a.Names, b.Names)
}

// checkAssemble tells whether the text is a program.
func checkAssemble(t *testing.T, text string) bool {
	want, wantErrno, wantLine := slowAssemble(text)
	got, errno, line := mason.Assemble(text)
	if !sameProgram(got, want) || errno != wantErrno || line != wantLine {
		t.Errorf("Assemble(%q) = %v, error %d, line %d; want %v, error %d, line %d", text, got, errno, line, want, wantErrno, wantLine)
	}
	return errno == api.OK
}

func TestAssembleAgainstReference(t *testing.T) {
	check := func(text string) { checkAssemble(t, text) }
	eachText([]string{"jmp a\n", "jmp b\n", "jz r1,b-a\n", "a: .space 63\n", "b: .align 4\n", ".space 64\n"}, 6, check)
	eachText([]string{"a: nop\n", "a: foo\n", "a:\n", ".set a,2\n", ".space a\n", ".align a\n", ".byte a\n", "load r1,300\n", "mov r1\n", ".space 999\n"}, 4, check)
	for _, operation := range []string{"nop", "ret", "mov", "add", "sub", "load", "call", "jmp", "jz", ".byte", ".word", ".space", ".align", ".set", "foo"} {
		eachText([]string{"r1", "r3", "r4", ",", "a", "256", "-", "1", "."}, 4, func(operands string) {
			checkAssemble(t, fmt.Sprintf("nop\na: %s %s", operation, operands))
		})
	}
}

// chanceProgram is a text of lines of which most have a label, l and the line's number: in a piece `?` is such a number, and `#` a digit.
func chanceProgram(chance *rand.Rand, pieces []string, most int) string {
	count := 1 + chance.IntN(most)
	var all []string
	for i := range count {
		piece := pieces[chance.IntN(len(pieces))]
		for strings.Contains(piece, "?") {
			piece = strings.Replace(piece, "?", fmt.Sprint(chance.IntN(count)), 1)
		}
		for strings.Contains(piece, "#") {
			piece = strings.Replace(piece, "#", fmt.Sprint(chance.IntN(10)), 1)
		}
		if chance.IntN(20) > 0 && !strings.HasPrefix(piece, ".set") {
			piece = fmt.Sprintf("l%d: %s", i, piece)
		}
		all = append(all, piece)
	}
	return strings.Join(all, "\n")
}

func TestAssembleOfChanceProgramsAgainstReference(t *testing.T) {
	chance := rand.New(rand.NewPCG(5, 9)) // always the same texts
	pieces := []string{
		"jmp l?", "jmp l?", "jmp l?", "jmp l?", "jz r2,l?", "jz r#,l?", "jmp .-12#", "jmp l?+12#", "jmp l?-l?*#", "call l?", "nop", "add r1,r2", "sub r#,r3", "load r1,l?-l?", ".byte l?-l?,#,3", ".word l?,-l?",
		".space 4#", ".space 6#", ".space 12#", ".space 12#", ".align 4", ".align 16", ".set k#,#", ".space k#", ".byte k#",
	}
	made := 0
	for range 10000 {
		if checkAssemble(t, chanceProgram(chance, pieces, 12)) {
			made++
		}
	}
	if made < 3000 {
		t.Errorf("only %d of the texts are programs", made)
	}
}

// Programs of many jumps, in which rounds come behind rounds.
func TestAssembleOfChanceJumpsAgainstReference(t *testing.T) {
	chance := rand.New(rand.NewPCG(8, 2))
	pieces := []string{"jmp l?", "jmp l?", "jmp l?", "jz r1,l?", "jmp l?-l?*5+.", ".space 1#", ".space 2#", ".space 3#", ".align 8", "nop"}
	made := 0
	for range 1500 {
		if checkAssemble(t, chanceProgram(chance, pieces, 40)) {
			made++
		}
	}
	if made < 500 {
		t.Errorf("only %d of the texts are programs", made)
	}
}
