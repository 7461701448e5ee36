package mason_test

import (
	"math/rand/v2"
	"slices"
	"strings"
	"testing"

	"mason/api"
	"mason/mason"
)

// again puts the lines that Expand answered below one another.
func again(lines []api.Line) string {
	var all []string
	for _, line := range lines {
		all = append(all, line.Text)
	}
	return strings.Join(all, "\n")
}

// withoutFrom are the lines as they would be if each came from the line of its own number.
func withoutFrom(lines []api.Line) []api.Line {
	same := slices.Clone(lines)
	for i := range same {
		same[i].From = i + 1
	}
	return same
}

// checkAgain tells whether the text has lines that can be expanded again.
func checkAgain(t *testing.T, text string) bool {
	t.Helper()
	lines, errno, _ := mason.Expand(text)
	second := again(lines)
	if errno != api.OK || len(second) > api.MaxText {
		return false
	}
	want := withoutFrom(lines)
	if got, errno, line := mason.Expand(second); !slices.Equal(got, want) || errno != api.OK || line != 0 {
		t.Errorf("P6: Expand(%q), the lines of %q, = %v, error %d, line %d", second, text, got, errno, line)
	}
	first, firstErrno, _ := mason.Assemble(text)
	got, gotErrno, _ := mason.Assemble(second)
	if !slices.Equal(got.Bytes, first.Bytes) || gotErrno != firstErrno {
		t.Errorf("P6: Assemble(%q), the lines of %q, = %v, error %d, not %v, error %d", second, text, got.Bytes, gotErrno, first.Bytes, firstErrno)
	}
	return true
}

func TestLinesOfExpandAreATextAgain(t *testing.T) {
	longest := strings.Repeat("n", api.MaxLine)
	for _, whole := range []string{
		"", "\n", "nop", "a:", " a:  nop ; x\n\nb:", longest, "a: " + longest[3:] + "\n" + longest,
		text(".macro twice,a", "add \\a,\\a", ".end", "here: twice r1 ; so"),
		text("m", "m: m 1", ".macro m", "m: nop", ".end", "m"),
		text(".macro m,p", "\\p", "\\p: x", "x \\p", ".end", "m a:", "m :", "m '", "m a:b"),
		text(".set a,2", ".set b,a*a", ".if b", ".byte a,b,c", ".endif", "c: jmp c", ".space a", ".align b"),
		text(".macro m,p,q", "\\p \\q,\\q", ".end", "m x,", "m ,x", "m .byte,1", "m .word , 2"),
		"a: b: c: d\n: x\n1: y\nr1: z\nx , , \n.byte ' '\n.byte ';'\n\\p \\",
		text(".macro m", "jmp end", ".space 50", ".end", "m", "m", "m", "m", "end: ret"),
	} {
		if !checkAgain(t, whole) {
			t.Errorf("P6: nothing was checked of %q", whole)
		}
	}
	checkAgain(t, strings.Repeat("x\n", api.MaxLines))
}

func TestLinesOfChanceTextsAreTextsAgain(t *testing.T) {
	chance := rand.New(rand.NewPCG(6, 6)) // always the same texts
	pieces := []string{
		"m l?", "n l?,#", "n k#,l?", "o ,", "o nop", "o r1:", "jmp l?", "jz r#,l?", ".set k#,#", ".if k#-#\nnop\n.else\nret\n.endif", ".space 12#", ".align 8", " add  r1 , r2 ; x", "foo # , ? ,", ".byte ' '", ".byte ','", "",
	}
	head := text(".macro m,p", "jmp \\p", ".space 100", ".if k1", "call \\p", ".endif", ".end", ".macro n,p,q", "m \\p", "y\\q: .byte \\q", ".end", ".macro o,p", "\\p", "\\p x", ".end", ".set k1,1", "")
	checked := 0
	for range 20000 {
		if checkAgain(t, head+chanceProgram(chance, pieces, 9)) {
			checked++
		}
	}
	if checked < 5000 {
		t.Errorf("P6: only %d texts were checked", checked)
	}
}

// lineOfLabel answers -1 if there is no such label.
func lineOfLabel(lines []api.Line, label string) int {
	return slices.IndexFunc(lines, func(line api.Line) bool {
		return line.Text == label+":" || strings.HasPrefix(line.Text, label+": ")
	})
}

// checkLongJumps answers how many long jumps to labels there are, and tells those that would fit.
func checkLongJumps(t *testing.T, text string, program api.Program) int {
	t.Helper()
	found := 0
	for i, line := range program.Lines {
		read := slowRead(line.Text)
		if line.Size != 3 || read.operation != "jmp" && read.operation != "jz" {
			continue
		}
		to := lineOfLabel(program.Lines, read.operands[len(read.operands)-1])
		if to < 0 {
			continue
		}
		found++
		far := program.Lines[to].At - (line.At + 2)
		if to > i {
			far-- // of the jump itself there would be one byte less
		}
		if far >= -128 && far <= 127 {
			t.Errorf("P7: of %q, the long jump of line %d would go %d, and so be short", text, line.From, far)
		}
	}
	return found
}

func TestLongJumpsWouldNotFit(t *testing.T) {
	for whole, want := range map[string]int{
		"jmp end\n.space 127\nend:":                                             0,
		"jmp end\n.space 128\nend:":                                             1,
		"a: .space 126\njmp a":                                                  0,
		"a: .space 127\njz r1,a":                                                1,
		"jmp b\njmp c\n.space 125\nb: .space 3\nc:":                             2,
		"jmp b\njmp c\n.space 125\nb: .space 1\nc:":                             0,
		"a: jmp c\n.space 124\njmp a\n.space 2\nc:":                             2,
		"a: jmp c\njmp b\n.space 122\njmp a\nb: .space 4\nc:":                   2,
		".macro m\njmp a\njmp z\n.end\na:\n" + strings.Repeat("m\n", 70) + "z:": 88,
	} {
		program, errno, _ := mason.Assemble(whole)
		if got := checkLongJumps(t, whole, program); errno != api.OK || got != want {
			t.Errorf("of %q, error %d, %d jumps to labels are long, not %d", whole, errno, got, want)
		}
	}
}

func TestLongJumpsOfChanceProgramsWouldNotFit(t *testing.T) {
	chance := rand.New(rand.NewPCG(7, 7)) // always the same texts
	pieces := []string{"jmp l?", "jmp l?", "jmp l?", "jz r2,l?", "jz r0,l?", "jmp l?+1", ".space #", ".space 3#", ".space 6#", ".space 6#", ".space 12#", "nop", "call l?", ".word l?,l?", ".set k?,#"}
	found := 0
	for range 20000 {
		whole := chanceProgram(chance, pieces, 24)
		if program, errno, _ := mason.Assemble(whole); errno == api.OK {
			found += checkLongJumps(t, whole, program)
		}
	}
	if found < 5000 {
		t.Errorf("P7: only %d long jumps to labels were checked", found)
	}
}
