package mason_test

import (
	"fmt"
	"slices"
	"strings"
	"testing"

	"mason/api"
	"mason/mason"
)

// text puts lines below one another.
func text(lines ...string) string { return strings.Join(lines, "\n") }

// expands takes the lines that are wanted as "From Text".
func expands(t *testing.T, text string, want ...string) {
	t.Helper()
	lines, errno, line := mason.Expand(text)
	if errno != api.OK || line != 0 {
		t.Errorf("Expand(%q) tells error %d, line %d", text, errno, line)
		return
	}
	var got []string
	for _, left := range lines {
		got = append(got, fmt.Sprintf("%d %s", left.From, left.Text))
		if left.At != 0 || left.Size != 0 {
			t.Errorf("Expand(%q) gives a line an address or a size: %v", text, left)
		}
	}
	if !slices.Equal(got, want) {
		t.Errorf("Expand(%q) = %q, want %q", text, got, want)
	}
}

func refuses(t *testing.T, errno api.Errno, line int, text string) {
	t.Helper()
	if got, gotErrno, gotLine := mason.Expand(text); got != nil || gotErrno != errno || gotLine != line {
		t.Errorf("Expand(%q) = %v, error %d, line %d; want error %d, line %d", text, got, gotErrno, gotLine, errno, line)
	}
}

func TestLinesOfText(t *testing.T) {
	expands(t, "")
	expands(t, "\n")
	expands(t, "\n  \n;\n ; a: nop\n")
	expands(t, "nop", "1 nop")
	expands(t, "nop\n", "1 nop")
	expands(t, "\n\nnop\n\nret\n", "3 nop", "5 ret")
}

func TestPartsOfLines(t *testing.T) {
	expands(t, "  a:   add  r1 ,r 2  ; b: nop", "1 a: add r1,r2")
	expands(t, "a:\n b:  ;\nc:;x", "1 a:", "2 b:", "3 c:")
	expands(t, "a:nop\na : nop\n: nop\na:: nop\n1: nop\nr0: nop\nr4: nop", "1 a:nop", "2 a :nop", "3 : nop", "4 a:: nop", "5 1: nop", "6 r0: nop", "7 r4: nop")
	expands(t, "eightlet: nop x y\nninelette: nop x y", "1 eightlet: nop xy", "2 ninelette: nopxy")
	expands(t, "a: b: c:  d", "1 a: b: c:d")
	expands(t, "x ,\nx , , \nx a,\nx ,a\nx", "1 x ,", "2 x ,,", "3 x a,", "4 x ,a", "5 x")
	expands(t, ".byte ' '\n.byte ';'\n.byte ','", "1 .byte ''", "2 .byte '", "3 .byte ','")
	expands(t, "nop;nop\nadd r1;,r2", "1 nop", "2 add r1")
	expands(t, "!\"#$%&'()*+,-./ <=>?@[\\]^_`{|}~", "1 !\"#$%&'()*+,-./ <=>?@[\\]^_`{|}~")
	expands(t, ".IF 1\n.iff\n.Macro\n.ends\nif 1\n.if:", "1 .IF 1", "2 .iff", "3 .Macro", "4 .ends", "5 if 1", "6 .if:")
}

func TestBoundsOfText(t *testing.T) {
	expands(t, strings.Repeat("\n", api.MaxText))
	expands(t, strings.Repeat("\n", api.MaxText-3)+"nop", fmt.Sprintf("%d nop", api.MaxText-2))
	refuses(t, api.ErrText, 0, strings.Repeat("\n", api.MaxText+1))
	refuses(t, api.ErrText, 0, strings.Repeat("\n", api.MaxText-2)+"nop")
	refuses(t, api.ErrText, 0, "\t"+strings.Repeat("\n", api.MaxText))
	refuses(t, api.ErrText, 0, ".end"+strings.Repeat(" ", api.MaxText))
}

func TestBoundsOfLine(t *testing.T) {
	most := strings.Repeat("n", api.MaxLine)
	expands(t, most, "1 "+most)
	expands(t, "nop\nnop ;"+strings.Repeat("~", api.MaxLine-5), "1 nop", "2 nop")
	refuses(t, api.ErrText, 1, most+"n")
	refuses(t, api.ErrText, 2, "nop\nnop ;"+strings.Repeat("~", api.MaxLine-4))
	refuses(t, api.ErrText, 3, "\n"+most+"\n"+most+" \n"+most)
}

func TestCharactersOfLines(t *testing.T) {
	for b := range 256 {
		one := string([]byte{byte(b)})
		switch {
		case b == 10 || b == ' ':
			expands(t, one+"x", fmt.Sprintf("%d x", 1+strings.Count(one, "\n")))
		case b == ';':
			expands(t, one+"x")
		case b > 32 && b < 127:
			expands(t, "x"+one+"x", "1 x"+one+"x")
			expands(t, ";"+one)
		default:
			refuses(t, api.ErrText, 2, "x\nx"+one)
			refuses(t, api.ErrText, 2, "\n;"+one)
		}
	}
}

func TestWrongCharactersComeFirst(t *testing.T) {
	refuses(t, api.ErrText, 3, ".end\n.if 1\n\t")
	refuses(t, api.ErrText, 2, ".if 0\n\x00\n.endif\n\x01")
	refuses(t, api.ErrText, 2, ".macro m\n\r\n.end")
	refuses(t, api.ErrText, 4, strings.Join([]string{".set 1,1", ".else", "x", "é"}, "\n"))
	refuses(t, api.ErrText, 400, strings.Repeat("x\n", 399)+"\x7f")
}

func TestBoundsOfLinesLeft(t *testing.T) {
	var most []string
	for i := range api.MaxLines {
		most = append(most, fmt.Sprintf("%d x", i+1))
	}
	expands(t, strings.Repeat("x\n", api.MaxLines), most...)
	expands(t, strings.Repeat("x\n", api.MaxLines)+";\n.if 0\nx\n.else\n.endif\n.macro x\nx\n.end", most...)
	refuses(t, api.ErrSize, api.MaxLines+1, strings.Repeat("x\n", api.MaxLines)+"y")
	refuses(t, api.ErrSize, api.MaxLines+1, strings.Repeat("x\n", api.MaxLines)+"y:\n.end")
	refuses(t, api.ErrSize, api.MaxLines+2, strings.Repeat("x\n", api.MaxLines)+"\n.set a,1")
	refuses(t, api.ErrSize, api.MaxLines+3, "\n\n"+strings.Repeat("x\n", api.MaxLines)+"y\n.end")
	refuses(t, api.ErrNest, api.MaxLines+1, strings.Repeat("x\n", api.MaxLines)+".end\nx")
	refuses(t, api.ErrUnknown, api.MaxLines+1, strings.Repeat("x\n", api.MaxLines)+".set a,b")
}
