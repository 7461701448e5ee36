package mason_test

import (
	"slices"
	"strings"
	"sync"
	"testing"

	"mason/api"
	"mason/mason"
)

// oddTexts are texts that a call must end with, whatever it answers.
func oddTexts() []string {
	texts := []string{
		"", "\n", "\n\n", "\r\n", "\x00", "\xff\xfe", "é", ";", ":", ",", "'", "$", "-", "\\",
		"nop", "a: jmp a", "jmp end\nend: ret", ".if 1", ".macro m\nm\n.end\nm", ".set x,1\nload r0,x", "x", "1+1", "'a'",
		strings.Repeat("n", api.MaxLine), strings.Repeat("n", api.MaxLine+1),
		strings.Repeat("\n", api.MaxText), strings.Repeat("\n", api.MaxText+1), strings.Repeat("nop\n", api.MaxText),
		strings.Repeat("(", 1<<16), strings.Repeat(".if 1\n", 100), strings.Repeat("1-", 1<<16),
		".macro m\nm\nm\n.end\nm", ".macro m,p\n.if \\p\nm \\p-1\nm \\p-1\n.endif\n.end\nm 7", ".macro m,p\n\\p \\p\n.end\nm m",
		".macro m\n" + strings.Repeat("\n", 2000) + ".end\n" + strings.Repeat("m\n", api.MaxCalls), ".macro", ".end", ".else", ".endif", ".set", ".if", "\\", ".macro m\n\\\n.end\nm",
		".macro m,p\n" + strings.Repeat("\\p", 39) + "\n.end\nm " + strings.Repeat("x", 78),
		"mov", "mov ,", "jz", "jz ,", "load ,", ".byte", ".byte ,", ".space", ".space ,", ".space -1", ".align", ".align 0", ".align -4", ".align 1000000", ".space 1000000",
		strings.Repeat(".space 1000\n", 240), strings.Repeat(".align 16\nnop\n", 140), strings.Repeat("jmp 9999\n", 280), ".set a,1\na: .set", "a: b: c:", ".set .set,1", "a:\na:\na:",
	}
	for b := range 256 {
		texts = append(texts, string([]byte{byte(b)}), string([]byte{'1', byte(b)}), string([]byte{byte(b), '1'}))
	}
	return texts
}

func TestValueWithErrorIsNothing(t *testing.T) {
	for _, text := range oddTexts() {
		if number, errno := mason.Value(text, 1, knownNames()); errno != api.OK && number != 0 {
			t.Errorf("Value(%q) = %d beside error %d", text, number, errno)
		}
	}
}

func TestExpandWithErrorIsNothing(t *testing.T) {
	for _, text := range oddTexts() {
		lines, errno, line := mason.Expand(text)
		if errno == api.OK && line != 0 {
			t.Errorf("Expand(%q) tells line %d without an error", text, line)
		}
		if errno != api.OK && lines != nil {
			t.Errorf("Expand(%q) has lines beside error %d", text, errno)
		}
	}
}

func TestAssembleWithErrorIsNothing(t *testing.T) {
	for _, text := range oddTexts() {
		program, errno, line := mason.Assemble(text)
		if errno == api.OK && line != 0 {
			t.Errorf("Assemble(%q) tells line %d without an error", text, line)
		}
		if errno != api.OK && (program.Bytes != nil || program.Lines != nil || program.Names != nil) {
			t.Errorf("Assemble(%q) has a program beside error %d", text, errno)
		}
	}
}

func TestValueWritesIntoNothing(t *testing.T) {
	whole := append(knownNames(), api.Name{Name: "behind", Value: 1}, api.Name{Name: "last", Value: 2})
	was := slices.Clone(whole)
	handed := whole[:len(whole)-2]
	for _, text := range append(oddTexts(), "a+neg*3", "behind", "b", "over", "-a") {
		mason.Value(text, here, handed)
	}
	if !slices.Equal(whole, was) {
		t.Errorf("the names that were handed in, or those behind them, are now %v", whole)
	}
	if _, errno := mason.Value("behind", here, handed); errno != api.ErrUnknown {
		t.Errorf("a name behind the list counts: error %d", errno)
	}
}

func TestValueKeepsNothing(t *testing.T) {
	names := []api.Name{{Name: "n", Value: 1}}
	if got, _ := mason.Value("n", 3, names); got != 1 {
		t.Errorf("n is %d", got)
	}
	names[0].Value = 2
	if got, _ := mason.Value("n", 4, names); got != 2 {
		t.Errorf("n is %d where it has become 2", got)
	}
	if got, _ := mason.Value(".", 5, names); got != 5 {
		t.Errorf("the address is %d", got)
	}
	if got, errno := mason.Value("n", 5, nil); got != 0 || errno != api.ErrUnknown {
		t.Errorf("n without names is %d, error %d", got, errno)
	}
}

func TestValueAnswersTheSameAtOnceAndAgain(t *testing.T) {
	names := knownNames()
	var all sync.WaitGroup
	for at := range 8 {
		all.Go(func() {
			for range 100 {
				if got, errno := mason.Value("-a*A+.", at, names); got != at-40 || errno != api.OK {
					t.Errorf("at %d: %d, error %d", at, got, errno)
				}
				if got, errno := mason.Value("a+b", at, names); got != 0 || errno != api.ErrUnknown {
					t.Errorf("at %d: %d, error %d", at, got, errno)
				}
			}
		})
	}
	all.Wait()
}

func TestLinesOfExpandAreTheCallers(t *testing.T) {
	whole := text(".set a,1", ".macro m,p", "x \\p", "l\\p: y", ".end", "k: m a", "nop", "m b")
	first, _, _ := mason.Expand(whole)
	want := slices.Clone(first)
	second, _, _ := mason.Expand(whole)
	for i := range first[:cap(first)] {
		first[:cap(first)][i] = api.Line{Text: "spoiled", From: -1, At: -1, Size: -1}
	}
	third, errno, line := mason.Expand(whole)
	if !slices.Equal(second, want) || !slices.Equal(third, want) || errno != api.OK || line != 0 {
		t.Errorf("where one answer was written into, the others are %v and %v, want %v", second, third, want)
	}
}

func TestExpandKeepsNothing(t *testing.T) {
	expands(t, text(".set a,1", ".macro m", "x", ".end", "m"), "1 .set a,1", "5 x")
	expands(t, "m", "1 m")
	refuses(t, api.ErrUnknown, 1, ".if a")
	refuses(t, api.ErrNest, 4, text(".macro m", ".if 1", ".end", "m"))
	refuses(t, api.ErrNest, 1, ".endif")
	for range 3 {
		expands(t, ".macro m\n.end\n"+strings.Repeat("m\n", api.MaxCalls))
		refuses(t, api.ErrNest, 5, text(".macro m", "m", ".end", "", "m"))
	}
}

func TestExpandAnswersTheSameAtOnceAndAgain(t *testing.T) {
	var all sync.WaitGroup
	for range 8 {
		all.Go(func() {
			for range 100 {
				expands(t, text(".macro m,p", ".if \\p", "x \\p", "m \\p-1", ".endif", ".end", "m 2"), "7 x 2", "7 x 2-1")
				refuses(t, api.ErrOperand, 4, text(".macro m,p", "\\q", ".end", "m 1"))
			}
		})
	}
	all.Wait()
}

func TestProgramsAreTheCallers(t *testing.T) {
	whole := text(".set a,1", ".macro m,p", "jmp l\\p", "l\\p: .byte a,\\p", ".end", "k: m 1", "nop", "m 2", ".space 3", ".align 8")
	first, _, _ := mason.Assemble(whole)
	want := api.Program{Bytes: slices.Clone(first.Bytes), Lines: slices.Clone(first.Lines), Names: slices.Clone(first.Names)}
	second, _, _ := mason.Assemble(whole)
	for i := range first.Bytes[:cap(first.Bytes)] {
		first.Bytes[:cap(first.Bytes)][i] = 99
	}
	for i := range first.Lines[:cap(first.Lines)] {
		first.Lines[:cap(first.Lines)][i] = api.Line{Text: "spoiled", From: -1, At: -1, Size: -1}
	}
	for i := range first.Names[:cap(first.Names)] {
		first.Names[:cap(first.Names)][i] = api.Name{Name: "spoiled", Value: -1}
	}
	third, errno, line := mason.Assemble(whole)
	if !sameProgram(second, want) || !sameProgram(third, want) || errno != api.OK || line != 0 {
		t.Errorf("where one answer was written into, the others are %v and %v, want %v", second, third, want)
	}
}

func TestAssembleKeepsNothing(t *testing.T) {
	for range 3 {
		makes(t, ".set a,1\nb: .byte a,b\njmp 300", 1, 0, 129, 44, 1)
		rejects(t, api.ErrUnknown, 1, ".byte a")
		rejects(t, api.ErrUnknown, 1, ".space a")
		rejects(t, api.ErrUnknown, 2, "nop\ncall b")
		makes(t, "a: ret\nb: jmp 3", 161, 128, 0)
		rejects(t, api.ErrSize, 0, ".space 600\n.space 600")
		makes(t, ".space 2\nret", 0, 0, 161)
	}
}

func TestAssembleAnswersTheSameAtOnceAndAgain(t *testing.T) {
	ladder, made := ladder(50)
	var all sync.WaitGroup
	for range 8 {
		all.Go(func() {
			for range 20 {
				makes(t, ladder, made...)
				makes(t, "jmp end\n.space 3\nend: load r1,end", 128, 3, 0, 0, 0, 17, 5)
				rejects(t, api.ErrOp, 2, "nop\nfoo")
				rejects(t, api.ErrValue, 3, "a: nop\n\nload r1,a-129")
			}
		})
	}
	all.Wait()
}
