package mason_test

import (
	"fmt"
	"strings"
	"testing"

	"mason/api"
)

func TestErrorsOfExpandAreToldByAssemble(t *testing.T) {
	rejects(t, api.ErrText, 0, strings.Repeat("\n", api.MaxText+1))
	rejects(t, api.ErrText, 2, "foo\n"+strings.Repeat("x", api.MaxLine+1))
	rejects(t, api.ErrNest, 1, ".if 1")
	rejects(t, api.ErrUnknown, 1, ".if x")
	rejects(t, api.ErrNest, 3, "foo\na:\n.end")
	rejects(t, api.ErrOperand, 2, "foo\n.set a")
	rejects(t, api.ErrName, 4, "foo\n\n.set a,1\n.set a,2")
	rejects(t, api.ErrUnknown, 2, "a: nop\n.set b,a")
	rejects(t, api.ErrSize, api.MaxLines+1, strings.Repeat("foo\n", api.MaxLines+1))
	rejects(t, api.ErrOperand, 4, ".macro m,p\nfoo \\q\n.end\nm 1")
}

func TestUnknownOperations(t *testing.T) {
	for _, line := range []string{
		"foo", "Ret", "NOP r1", ".foo x", "b: c: nop", "1a: nop", "x:y", "r1", "r1: nop", "1", "nop,", "nop:nop", "..", ".", "byte 1", "word 1", ".set1 a,1", "set a,1", ".SET a,1", ".nop", "jmps 1", "jm 1", "j", "halt", ".space: 1", "mov,r1", "'", "\\", "label: foo 1,2",
	} {
		rejects(t, api.ErrOp, 2, "nop\n"+line)
	}
	rejects(t, api.ErrOp, 1, "m\n.macro m\n.end")
	rejects(t, api.ErrOp, 2, "\nr: m 1\n.macro m\n.end")
}

func TestNamesThatAreThereAlready(t *testing.T) {
	rejects(t, api.ErrName, 2, "a:\na:")
	rejects(t, api.ErrName, 3, "a: nop\nb:\na: ret")
	rejects(t, api.ErrName, 2, ".set a,1\na:")
	rejects(t, api.ErrName, 3, ".set a,1\nnop\na: nop")
	rejects(t, api.ErrName, 2, "a:\n.set a,1")
	rejects(t, api.ErrName, 3, "a: nop\nb: nop\n.set a,1")
	rejects(t, api.ErrName, 5, text(".macro m", "l: nop", ".end", "m", "m"))
	rejects(t, api.ErrName, 6, text(".macro m", ".set l,1", ".end", "l: nop", "", "m"))
	makes(t, text("a:", "A:", "aa:", "a_: nop", ".set a1,1", ".macro a", "ret", ".end", "a"), 0, 161)
	makes(t, text(".if 0", "a:", ".endif", "a: nop", ".if 0", "a:", ".endif"), 0)
	makes(t, text(".macro m,p", "l\\p: .byte l\\p", ".end", "m 1", "m 2"), 0, 1)
}

func TestWrongOperands(t *testing.T) {
	wrong := map[string][]string{
		"nop":    {"1", "r1", ",", "nop"},
		"ret":    {"1", "r1", ",", "a"},
		"mov":    {"", "r1", "r1,r2,r3", "r1,r4", "r4,r1", "r1,", ",r1", ",", "r1,1", "1,r1", "r1,a", "R1,r2", "r1,R2", "r1r2", "r1,r2,", "r01,r1", "r1,-r2", "a,a", "r1,r"},
		"add":    {"", "r1", "r1,r2,r3", "r1,r4", "1,r1", "r1,a"},
		"sub":    {"", "r1", "r1,r2,r3", "r1,r4", "1,r1", "r1,a"},
		"load":   {"", "r1", "1", "r1,1,2", "r4,1", "1,r1", "a,1", ",1", "1,1", "R1,1", "a", ","},
		"call":   {"", "1,2", ",", "1,"},
		"jmp":    {"", "1,2", "r1,1", ",", ",1"},
		"jz":     {"", "r1", "1", "1,r1", "r4,1", "r1,1,2", "r1,r2,1", ",1", "a,a"},
		".byte":  {""},
		".word":  {""},
		".space": {"", "1,2", ",", "1,", ",1", "r1", "1+", "-", "r1,1"},
		".align": {"", "1,2", ",", "1,", ",1", "r1", "1+", "-", "r1,1"},
	}
	for operation, all := range wrong {
		for _, operands := range all {
			rejects(t, api.ErrOperand, 3, fmt.Sprintf("a: nop\n\nb: %s %s", operation, operands))
			// It is told ahead of what is wrong with numbers, wherever these stand.
			rejects(t, api.ErrOperand, 2, fmt.Sprintf("call x\n%s %s\nload r1,256", operation, operands))
		}
	}
}

func TestWrongExpressionsOfOperations(t *testing.T) {
	for _, form := range []string{"load r1,%s", "call %s", "jmp %s", "jz r1,%s", ".byte %s", ".word %s", ".byte 1,%s", ".word 1,%s,1", ".byte %s,x"} {
		for expr, errno := range map[string]api.Errno{
			"1+": api.ErrOperand, "-": api.ErrOperand, "r1": api.ErrOperand, "''": api.ErrOperand, "ninelette": api.ErrOperand, "(1)": api.ErrOperand, "1.": api.ErrOperand, "$": api.ErrOperand, "\\": api.ErrOperand,
			"x": api.ErrUnknown, "1+x": api.ErrUnknown, "A": api.ErrUnknown, "nop": api.ErrUnknown, "x+": api.ErrUnknown,
			"1000001": api.ErrValue, "1000*1001": api.ErrValue, "1000001+x": api.ErrValue, "-1000000": api.ErrValue,
		} {
			rejects(t, errno, 3, fmt.Sprintf("a: nop\n\nb: "+form, expr))
		}
	}
	for _, line := range []string{".byte ,", ".byte 1,", ".byte ,1", ".word ,", ".word 1,", "load r1,", "jz r1,", "jmp +", "call *1"} {
		rejects(t, api.ErrOperand, 2, "nop\n"+line)
	}
}

func TestErrorsOfOneLine(t *testing.T) {
	rejects(t, api.ErrOp, 2, "a: nop\na: foo 1,2")
	rejects(t, api.ErrName, 2, "a: nop\na: nop 1")
	rejects(t, api.ErrName, 2, "a: nop\na: mov r4")
	rejects(t, api.ErrName, 2, "a: nop\na: .space x")
	rejects(t, api.ErrName, 2, "a: nop\na: .space -1")
	rejects(t, api.ErrName, 2, "a: nop\na: load r1,256")
	rejects(t, api.ErrOperand, 2, "a: nop\n.space x,1")
	rejects(t, api.ErrOperand, 2, "nop\nload r4,x")
	rejects(t, api.ErrUnknown, 2, "nop\n.align x*0-1")
	rejects(t, api.ErrValue, 2, "nop\n.byte 256,x")
	rejects(t, api.ErrUnknown, 2, "nop\n.byte x,256")
	rejects(t, api.ErrOperand, 2, "nop\n.byte 1,,x,256")
	rejects(t, api.ErrValue, 2, "nop\n.word 65536,")
	rejects(t, api.ErrUnknown, 2, "nop\n.word 65535,x,65536")
	rejects(t, api.ErrUnknown, 1, ".byte 300-300*x")
}

func TestErrorsOfSeveralLines(t *testing.T) {
	// What is looked at first comes first, wherever it stands.
	rejects(t, api.ErrOp, 4, "load r1,300\ncall x\n.space 600\nfoo\na:\na:")
	rejects(t, api.ErrName, 5, ".space 1000\nload r1,300\na:\ncall x\na:\nfoo")
	rejects(t, api.ErrValue, 3, "load r1,300\ncall x\n.space -1\nfoo")
	rejects(t, api.ErrUnknown, 3, ".space 1000\nload r1,300\n.align x\nfoo")
	rejects(t, api.ErrOperand, 2, "jmp a\nmov r1,x\nfoo")
	rejects(t, api.ErrOp, 3, ".space 600\n.space 600\nfoo")
	rejects(t, api.ErrSize, 0, "load r1,300\ncall x\n.space 1000")
	rejects(t, api.ErrSize, 0, ".space 1000\nnop\njmp x")
	// Of the same look, the first line.
	rejects(t, api.ErrOp, 2, "nop\nfoo\na:\na:")
	rejects(t, api.ErrName, 3, "a:\nnop\na:\nfoo")
	rejects(t, api.ErrOperand, 2, "a:\nnop 1\na:")
	rejects(t, api.ErrValue, 2, "foo:\n.byte 300\n.byte x")
	rejects(t, api.ErrUnknown, 2, "foo:\n.byte x\n.byte 300")
	rejects(t, api.ErrOperand, 2, "nop\nload r1,1+\nload r1,")
	rejects(t, api.ErrValue, 3, "jmp a\na:\njmp 65536\ncall 65536")
}

func TestErrorsOfMacrosLines(t *testing.T) {
	whole := func(line, call string) string {
		return text(".macro m,p", "nop", line, ".end", ".macro n,p", "m \\p", ".end", "", "m 1", call, "m 3")
	}
	rejects(t, api.ErrOp, 10, whole("l\\p: nop", "m :"))
	rejects(t, api.ErrOp, 10, whole("l\\p: nop", "n :"))
	rejects(t, api.ErrName, 10, whole("l\\p:", "m 1"))
	rejects(t, api.ErrName, 10, whole("l\\p:", "n 1"))
	rejects(t, api.ErrOperand, 10, whole("call \\p", "n +"))
	rejects(t, api.ErrOperand, 10, whole("mov r\\p,r1", "n 4"))
	rejects(t, api.ErrUnknown, 10, whole(".space \\p", "n x"))
	rejects(t, api.ErrValue, 10, whole(".space \\p", "n -1"))
	rejects(t, api.ErrUnknown, 10, whole(".byte \\p", "n x"))
	rejects(t, api.ErrValue, 10, whole(".byte \\p", "n 256"))
	rejects(t, api.ErrOp, 5, text(".macro m", "foo", ".end", "nop", "m"))
	rejects(t, api.ErrSize, 0, whole(".space 300+\\p", "n 400"))
}
