package mason_test

import (
	"fmt"
	"slices"
	"strings"
	"testing"

	"mason/api"
	"mason/mason"
)

// makes answers the program, so that more can be asked of it than its bytes.
func makes(t *testing.T, text string, want ...byte) api.Program {
	t.Helper()
	program, errno, line := mason.Assemble(text)
	if !slices.Equal(program.Bytes, want) || errno != api.OK || line != 0 {
		t.Errorf("Assemble(%q) = %v, error %d, line %d; want %v", text, program.Bytes, errno, line, want)
	}
	return program
}

func rejects(t *testing.T, errno api.Errno, line int, text string) {
	t.Helper()
	got, gotErrno, gotLine := mason.Assemble(text)
	if got.Bytes != nil || got.Lines != nil || got.Names != nil || gotErrno != errno || gotLine != line {
		t.Errorf("Assemble(%q) = %v, error %d, line %d; want error %d, line %d", text, got, gotErrno, gotLine, errno, line)
	}
}

// bytesAround are noughts, with some bytes ahead of them and some behind.
func bytesAround(ahead []byte, noughts int, behind ...byte) []byte {
	return slices.Concat(ahead, make([]byte, noughts), behind)
}

func TestPlainOperations(t *testing.T) {
	makes(t, "")
	makes(t, "nop", 0)
	makes(t, "ret", 161)
	makes(t, " ret ; nop\n\nnop\nret", 161, 0, 161)
	makes(t, "a:\nb: ret\nc:", 161)
	for operation, code := range map[string]int{"mov": 64, "add": 80, "sub": 96} {
		for r := range 4 {
			for s := range 4 {
				makes(t, fmt.Sprintf("%s r%d , r%d", operation, r, s), byte(code+4*r+s))
			}
		}
	}
}

func TestOperationsWithNumbers(t *testing.T) {
	for r := range 4 {
		for number := -128; number <= 255; number++ {
			makes(t, fmt.Sprintf("load r%d,%d", r, number), byte(16+r), byte(number))
		}
	}
	for _, number := range []int{-32768, -32767, -257, -256, -255, -129, -128, -1, 0, 1, 127, 128, 255, 256, 257, 32767, 32768, 65534, 65535} {
		low, high := byte(number), byte(number>>8)
		makes(t, fmt.Sprintf("call %d", number), 160, low, high)
		makes(t, fmt.Sprintf(".word %d", number), low, high)
		makes(t, fmt.Sprintf(".word 1,%d,2", number), 1, 0, low, high, 2, 0)
	}
	for number := -128; number <= 255; number++ {
		makes(t, fmt.Sprintf(".byte %d", number), byte(number))
		makes(t, fmt.Sprintf(".byte 7,%d,8", number), 7, byte(number), 8)
	}
}

func TestNumbersThatDoNotFit(t *testing.T) {
	for _, number := range []string{"-129", "256", "-1000000", "1000000", "1000001", "255+1", "16*16", "-128-1", "$100", "65535", "-256", "512"} {
		rejects(t, api.ErrValue, 2, "nop\nload r1,"+number)
		rejects(t, api.ErrValue, 2, "nop\n.byte "+number)
		rejects(t, api.ErrValue, 2, "nop\n.byte 1,2,"+number)
	}
	for _, number := range []string{"-32769", "65536", "-1000000", "1000000", "1000001", "65535+1", "$10000", "-65536", "131072"} {
		rejects(t, api.ErrValue, 3, "nop\n\ncall "+number)
		rejects(t, api.ErrValue, 3, "nop\n\njmp "+number)
		rejects(t, api.ErrValue, 3, "nop\n\njz r0,"+number)
		rejects(t, api.ErrValue, 3, "nop\n\n.word "+number)
		rejects(t, api.ErrValue, 3, "nop\n\n.word 1,2,"+number)
	}
}

func TestExpressionsOfOperations(t *testing.T) {
	makes(t, "load r2,x\n.set x,-1", 18, 255)
	makes(t, "load r0,'a'\nload r1,1 + 2 * 3\nload r2,-$10", 16, 97, 17, 9, 18, 240)
	makes(t, "nop\nload r1,.\ncall .\n.byte .,.,.+1\n.word .,.-1", 0, 17, 1, 160, 3, 0, 6, 6, 7, 9, 0, 8, 0)
	makes(t, ".byte a,b,b-a,c\na: nop\nb: ret\nc:", 4, 5, 1, 6, 0, 161)
	makes(t, "a: .byte a,.\nb: .byte b,.", 0, 0, 2, 2)
	makes(t, ".set k,3\n.set l,k*k\n.byte l,k,l-k", 9, 3, 6)
	makes(t, text(".set x,.", "nop", ".set y,.+5", ".byte x,y"), 0, 0, 5)
	makes(t, text("jmp: nop", "nop: jmp jmp", "call nop", ".set ret,4", "ret", ".byte ret"), 0, 128, 253, 160, 1, 0, 161, 4)
	makes(t, ".byte ')'-'!'", 8)
	rejects(t, api.ErrOperand, 1, ".byte ' '")
}

func TestSpace(t *testing.T) {
	makes(t, ".space 0")
	makes(t, "ret\n.space 3\nret\n.space 0\nret", 161, 0, 0, 0, 161, 161)
	makes(t, ".set n,2\n.space n*2+1\nret", 0, 0, 0, 0, 0, 161)
	makes(t, "nop\n.space .\nret\n.space .+1\nret", 0, 161, 0, 161)
	makes(t, ".space 1000", make([]byte, 1000)...)
	rejects(t, api.ErrValue, 1, ".space 1001")
	rejects(t, api.ErrValue, 2, "nop\n.space -1")
	rejects(t, api.ErrValue, 2, "nop\n.space 1000000")
	rejects(t, api.ErrValue, 2, "nop\n.space 1000*1001")
	rejects(t, api.ErrUnknown, 2, "nop\n.space a\n.set a,1")
	rejects(t, api.ErrUnknown, 2, "a: nop\n.space a")
	rejects(t, api.ErrUnknown, 2, "nop\na: .space a")
	rejects(t, api.ErrOperand, 2, "nop\n.space 1+")
}

func TestAlign(t *testing.T) {
	for _, count := range []int{1, 2, 4, 8, 16} {
		for ahead := range 34 {
			behind := (ahead + count - 1) / count * count
			program := makes(t, fmt.Sprintf(".space %d\na: .align %d\nb: ret", ahead, count), bytesAround(nil, behind, 161)...)
			if want := []api.Name{{Name: "a", Value: ahead}, {Name: "b", Value: behind}}; !slices.Equal(program.Names, want) {
				t.Errorf("behind %d bytes .align %d gives the names %v", ahead, count, program.Names)
			}
		}
	}
	for number := -20; number <= 1001; number++ {
		switch number {
		case 1, 2, 4, 8, 16:
		default:
			rejects(t, api.ErrValue, 1, fmt.Sprintf(".align %d", number))
		}
	}
	makes(t, ".set n,2\nret\n.align n*2\nret", 161, 0, 0, 0, 161)
	makes(t, "nop\nnop\nret\n.align .+4\nret", 0, 0, 161, 0, 161)
	rejects(t, api.ErrValue, 2, "nop\n.align .")
	rejects(t, api.ErrUnknown, 2, "nop\n.align a\n.set a,1")
	rejects(t, api.ErrUnknown, 3, "nop\na: nop\n.align a")
	rejects(t, api.ErrUnknown, 2, "nop\na: .align a+1")
	rejects(t, api.ErrOperand, 2, "nop\n.align 1+")
}

func TestMostBytes(t *testing.T) {
	full := make([]byte, api.MaxBytes)
	makes(t, ".space 999\nnop", full...)
	makes(t, ".space 999\nnop\n.space 0\n.align 8\na:", full...)
	makes(t, ".space 993\n.align 8", full...)
	rejects(t, api.ErrSize, 0, ".space 1000\nnop")
	rejects(t, api.ErrSize, 0, ".space 500\n.space 501")
	rejects(t, api.ErrSize, 0, ".space 1000\n.align 16")
	rejects(t, api.ErrSize, 0, strings.Repeat(".space 1000\n", 200))
	rejects(t, api.ErrSize, 0, ".space 1000\n.byte 0,0")
	// Of jumps, what they are in the end counts.
	makes(t, ".space 998\njmp .", bytesAround(nil, 998, 128, 254)...)
	rejects(t, api.ErrSize, 0, ".space 998\njmp 0")
	makes(t, ".space 997\njmp 0", bytesAround(nil, 997, 129, 0, 0)...)
	makes(t, "a: jmp b\n.space 996\n.align 2\nb:", bytesAround([]byte{129, 232, 3}, 997)...)
	rejects(t, api.ErrSize, 0, "a: jmp b\n.space 998\nb:")
}

func TestLinesAndNamesOfPrograms(t *testing.T) {
	program := makes(t, text(
		"; remark", " go:  load r1 , k ; two", ".set k,-1", ".macro m,p", "\\p: jmp end", ".space 60*2", ".align 2", ".set n\\p,k-1", ".end",
		"x: m a", "", "m b", "end:   ret", ".byte 1,2", ".word 3",
	), slices.Concat(
		[]byte{17, 255},
		bytesAround([]byte{129, 248, 0}, 121),
		bytesAround([]byte{128, 120}, 120),
		[]byte{161, 1, 2, 3, 0},
	)...)
	var got []string
	for _, line := range program.Lines {
		got = append(got, fmt.Sprintf("%d %d+%d %s", line.From, line.At, line.Size, line.Text))
	}
	want := []string{
		"2 0+2 go: load r1,k", "3 2+0 .set k,-1",
		"10 2+0 x:", "10 2+3 a: jmp end", "10 5+120 .space 60*2", "10 125+1 .align 2", "10 126+0 .set na,k-1",
		"12 126+2 b: jmp end", "12 128+120 .space 60*2", "12 248+0 .align 2", "12 248+0 .set nb,k-1",
		"13 248+1 end: ret", "14 249+2 .byte 1,2", "15 251+2 .word 3",
	}
	if !slices.Equal(got, want) {
		t.Errorf("lines: %q, want %q", got, want)
	}
	names := []api.Name{{Name: "go", Value: 0}, {Name: "k", Value: -1}, {Name: "x", Value: 2}, {Name: "a", Value: 2}, {Name: "na", Value: -2}, {Name: "b", Value: 126}, {Name: "nb", Value: -2}, {Name: "end", Value: 248}}
	if !slices.Equal(program.Names, names) {
		t.Errorf("names: %v, want %v", program.Names, names)
	}
}

func TestProgramsOfNothing(t *testing.T) {
	for _, whole := range []string{"", "\n\n", "; nop", ".macro m\nfoo\n.end", ".if 0\nfoo\n.endif"} {
		if program := makes(t, whole); len(program.Lines)+len(program.Names) != 0 {
			t.Errorf("Assemble(%q) = %v", whole, program)
		}
	}
}
