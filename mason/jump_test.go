package mason_test

import (
	"fmt"
	"strings"
	"testing"

	"mason/api"
)

func TestShortJumps(t *testing.T) {
	makes(t, "jmp end\nend: ret", 128, 0, 161)
	makes(t, "a: jmp a", 128, 254)
	makes(t, "jmp .\njmp .+2\njmp 0\njmp -1", 128, 254, 128, 0, 128, 250, 128, 247)
	makes(t, "jmp x\n.set x,5", 128, 3)
	for r := range 4 {
		makes(t, fmt.Sprintf("jz r%d,end\nnop\nend:", r), byte(132+r), 1, 0)
	}
}

func TestHowFarJumpsGo(t *testing.T) {
	for far := -140; far <= 140; far++ {
		to := far + 2
		low, high := byte(to), byte(to>>8)
		if far >= -128 && far <= 127 {
			makes(t, fmt.Sprintf("jmp %d", to), 128, byte(far))
			makes(t, fmt.Sprintf("jz r2,.%+d", to), 134, byte(far))
		} else {
			makes(t, fmt.Sprintf("jmp %d", to), 129, low, high)
			makes(t, fmt.Sprintf("jz r2,.%+d", to), 138, low, high)
		}
	}
	for r := range 4 {
		makes(t, fmt.Sprintf("jz r%d,1000", r), byte(136+r), 232, 3)
	}
	makes(t, "jmp -32768\njmp 65535\njz r1,-32768\njz r1,65535", 129, 0, 128, 129, 255, 255, 137, 0, 128, 137, 255, 255)
}

func TestHowFarLabelsAre(t *testing.T) {
	makes(t, "jmp end\n.space 127\nend:", bytesAround([]byte{128, 127}, 127)...)
	makes(t, "jmp end\n.space 128\nend:", bytesAround([]byte{129, 131, 0}, 128)...)
	makes(t, "jz r3,end\n.space 127\nend: ret", bytesAround([]byte{135, 127}, 127, 161)...)
	makes(t, "jz r3,end\n.space 128\nend: ret", bytesAround([]byte{139, 131, 0}, 128, 161)...)
	makes(t, "a: .space 126\njmp a", bytesAround(nil, 126, 128, 128)...)
	makes(t, "a: .space 127\njmp a", bytesAround(nil, 127, 129, 0, 0)...)
	makes(t, "ret\na: .space 126\njz r1,a", bytesAround([]byte{161}, 126, 133, 128)...)
	makes(t, "ret\na: .space 127\njz r1,a", bytesAround([]byte{161}, 127, 137, 1, 0)...)
	makes(t, "ret\njmp a+1\n.space 126\na: nop", bytesAround([]byte{161, 128, 127}, 127)...)
	makes(t, "ret\njmp a+1\n.space 127\na: nop", bytesAround([]byte{161, 129, 132, 0}, 128)...)
}

func TestJumpsThatBecomeLongBecauseOthersDid(t *testing.T) {
	makes(t, "jmp b\njmp c\n.space 125\nb: .space 1\nc:", bytesAround([]byte{128, 127, 128, 126}, 126)...)
	makes(t, "jmp b\njmp c\n.space 125\nb: .space 3\nc:", bytesAround([]byte{129, 131, 0, 129, 134, 0}, 128)...)
	makes(t, "a: jmp c\njmp b\n.space 122\njmp a\nb: .space 4\nc:", bytesAround([]byte{129, 134, 0, 128, 125}, 122, 129, 0, 0, 0, 0, 0, 0)...)
	makes(t, "a: jmp c\n.space 124\njmp a\n.space 2\nc:", bytesAround([]byte{129, 132, 0}, 124, 129, 0, 0, 0, 0)...)
	makes(t, "a: jmp c\n.space 124\njmp a\n.space 1\nc:", bytesAround([]byte{128, 127}, 124, 128, 128, 0)...)
	// The value of an expression changes with the addresses, and so does how far it is.
	makes(t, "a: jmp 300\nb: jmp b-a*100", 129, 44, 1, 129, 44, 1)
	makes(t, "a: jmp 3\nb: jmp b-a*50", 128, 1, 128, 96)
}

// ladder is a text of jumps of which each becomes long one round behind the one ahead of it.
func ladder(count int) (string, []byte) {
	name := func(i int) string { return fmt.Sprintf("%c%c", 'a'+i/26, 'a'+i%26) }
	all := []string{".macro m,p,q", "\\q: jmp \\q-\\p-2*1000+.", ".end", "aa: jmp 1000"}
	made := []byte{129, 232, 3}
	for i := 1; i < count; i++ {
		all = append(all, fmt.Sprintf("m %s,%s", name(i-1), name(i)))
		to := 1000 + 3*i
		made = append(made, 129, byte(to), byte(to>>8))
	}
	return text(all...), made
}

func TestLadderOfJumps(t *testing.T) {
	for _, count := range []int{1, 2, 3, 10, api.MaxCalls + 1} {
		whole, made := ladder(count)
		makes(t, whole, made...)
		makes(t, strings.Replace(whole, "jmp 1000", "jmp 3", 1), shortLadder(count)...)
	}
}

// shortLadder are the bytes of a ladder of which the first jump is short, so that all are.
func shortLadder(count int) []byte {
	made := []byte{128, 1}
	for range count - 1 {
		made = append(made, 128, 254)
	}
	return made
}

func TestJumpsBecomeLongAllAtOnce(t *testing.T) {
	// Either jump alone, made long, would bring the other one's number back to where it fits.
	makes(t, text("a: jmp 2-c+b*1000+.", "b: jmp 2-b+a*1000+.", "c:"), 128, 254, 128, 254)
	makes(t, text("a: jmp 3-c+b*1000+.", "b: jmp 3-b+a*1000+.", "c:"), 129, 0, 0, 129, 3, 0)
}

func TestLongJumpsStayLong(t *testing.T) {
	makes(t, "jmp b\n.space 127\n.align 2\nb:", bytesAround([]byte{129, 130, 0}, 127)...)
	makes(t, "jmp b\n.space 125\n.align 4\nb:", bytesAround([]byte{128, 126}, 126)...)
	makes(t, "jmp b\n.space 126\n.align 16\nb:", bytesAround([]byte{128, 126}, 126)...)
	makes(t, "jmp b\n.space 128\n.align 16\nb:", bytesAround([]byte{129, 144, 0}, 141)...)
	makes(t, "a: jmp b-a-3*1000+.\nb:", 129, 0, 0)
}

func TestJumpsWithErrorsCountAsFitting(t *testing.T) {
	rejects(t, api.ErrUnknown, 2, "nop\njmp x+1\n.space 200")
	rejects(t, api.ErrOperand, 1, "jmp 1+\n.space 1")
	rejects(t, api.ErrValue, 1, "jmp 1000001")
	// If the wrong jump had become long, there would be one byte too many.
	for _, wrong := range []string{"jmp x", "jz r0,x", "jmp 1000*1001", "jmp 5000+x", "jmp 5000+"} {
		_, errnoAlone, _ := slowAssemble(wrong)
		rejects(t, errnoAlone, 1, wrong+"\n.space 998")
		rejects(t, api.ErrSize, 0, wrong+"\n.space 999")
	}
	rejects(t, api.ErrSize, 0, "jmp 5000\n.space 998")
}
