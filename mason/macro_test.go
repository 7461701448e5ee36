package mason_test

import (
	"fmt"
	"strings"
	"testing"

	"mason/api"
)

func TestMacroLines(t *testing.T) {
	expands(t, text(".macro twice,a", "add \\a,\\a", ".end", "here: twice r1 ; so"), "4 here:", "4 add r1,r1")
	expands(t, text(".macro m", "nop", "", " l:  ret ; x", ".end ; y", "m", "x", "a: m;"), "6 nop", "6 l: ret", "7 x", "8 a:", "8 nop", "8 l: ret")
	expands(t, text(".macro m", ".end", "m", "a: m"), "4 a:")
	expands(t, text("m", "m: m", ".macro m", "nop", ".end", "m: m"), "1 m", "2 m: m", "6 m:", "6 nop")
	expands(t, text(".macro nop", "nop2", ".end", ".macro _a1", "x", ".end", "nop", "_a1", "_A1"), "7 nop2", "8 x", "9 _A1")
	expands(t, text(".macro a", "one", ".end", ".macro b", "a", "l: a", ".end", "b", "k: b"), "8 one", "8 l:", "8 one", "9 k:", "9 one", "9 l:", "9 one")
	expands(t, text(".macro a", "b", ".end", "a", ".macro b", "x", ".end", "a"), "4 b", "8 x")
	expands(t, text(".macro m", ".set a,1", ".if", ".endif 1", "\\", ".end"))
	expands(t, text("  .macro   m ,  p ;", " x \\p", "  .end", "m 1 + 2"), "4 x 1+2")
}

func TestParameters(t *testing.T) {
	expands(t, text(".macro m,a,ab,abc", "\\abc\\ab\\a: \\abcd \\a\\ab,\\abx", ".end", "m 1,2,3"), "4 321: 3d12,2x")
	expands(t, text(".macro m,abc,ab,a", "x \\abc,\\abd,\\ad,\\aab", ".end", "m 1,2,3"), "4 x 1,2d,3d,3ab")
	expands(t, text(".macro m,p", "\\p \\p,\\p\\p,p ;\\p\\", ".end", "m q"), "4 q q,qq,p")
	expands(t, text(".macro m,m", "\\m\\mm", ".end", "m x"), "4 xxm")
	expands(t, text(".macro m,p,q", "x \\p\\q", "y \\p,\\q", "\\p", "\\q: nop", ".end", "m ,", "m a,", "m ,b"), "7 x", "7 y ,", "7 : nop", "8 x a", "8 y a,", "8 a", "8 : nop", "9 x b", "9 y ,b", "9 b: nop")
	expands(t, text(".macro m,p", "\\p 1,2", "l\\p: nop", "\\p: nop", "\\p:nop", ".end", "m add", "m r1"), "7 add 1,2", "7 ladd: nop", "7 add: nop", "7 add:nop", "8 r1 1,2", "8 lr1: nop", "8 r1: nop", "8 r1:nop")
	expands(t, text(".macro m,P,p", "x \\p,\\P", ".end", "m 1,2"), "4 x 2,1")
	expands(t, text(".macro m,p", "x '\\p'", ".end", "m a + 1", "m '"), "4 x 'a+1'", "5 x '''")
	expands(t, text(".macro m,p", "x\\py \\p z", ".end", "m :", "m +"), "4 x:y :z", "5 x+y +z")
	expands(t, text(".macro m,eightlet", "x \\eightlet9", ".end", "m 1"), "4 x 19")
}

func TestWhatOperandsBringIsNotLookedAtAgain(t *testing.T) {
	expands(t, text(".macro m,p", "x \\p", ".end", "m \\p", "m \\", "m \\\\q"), "4 x \\p", "5 x \\", "6 x \\\\q")
	expands(t, text(".macro m,p,q", "x \\p", ".end", "m \\q,7"), "4 x \\q")
	expands(t, text(".macro m,p,q", "x \\pq,\\pp", ".end", "m \\,7"), "4 x \\q,\\p")
	expands(t, text(".macro in,p", "y \\p", ".end", ".macro out,q", "in \\q", ".end", "out \\z"), "7 y \\z")
}

func TestMacroLinesAreReadWithTheirOperands(t *testing.T) {
	expands(t, text(".macro one,p", "x \\p", ".end", ".macro m,n,p", "\\n \\p", ".end", "m one,5", "m two,5"), "7 x 5", "8 two 5")
	expands(t, text(".macro m,p", "\\p a,1", "x a", ".end", "m .set", ".if a", "y", ".endif"), "5 .set a,1", "5 x a", "7 y")
	expands(t, text(".macro m,p", "l\\p m2", ".end", ".macro m2", "x", ".end", "m :"), "7 l:", "7 x")
}

func TestWrongMacros(t *testing.T) {
	for _, head := range []string{".macro", ".macro ;m", "a: .macro m", "a: .macro", ".macro 1", ".macro r1", ".macro m,r2", ".macro m,p,p", ".macro m,p,q,p", ".macro m,", ".macro ,m", ".macro ,", ".macro m,,p", ".macro ninelette", ".macro m,ninelette", ".macro m:", ".macro \\m", ".macro m,\\p", ".macro .if", ".macro m-1", ".macro m,1+1"} {
		refuses(t, api.ErrOperand, 2, text("nop", head, ".end"))
		refuses(t, api.ErrOperand, 1, head)
	}
	expands(t, text(".macro m p,q", ".end", "mp 1"))
	refuses(t, api.ErrName, 3, text(".macro m", ".end", ".macro m", ".end"))
	refuses(t, api.ErrName, 3, text(".macro m", ".end", ".macro m,p"))
	refuses(t, api.ErrName, 4, text(".macro m,p", ".end", "x", ".macro m", ".macro n"))
	refuses(t, api.ErrOperand, 3, text(".macro m", ".end", ".macro m,p,p"))
	refuses(t, api.ErrOperand, 3, text(".macro m", ".end", "a: .macro m"))
}

func TestEndsOfMacros(t *testing.T) {
	refuses(t, api.ErrNest, 1, ".macro m")
	refuses(t, api.ErrNest, 3, text(".macro m", "nop", ""))
	refuses(t, api.ErrNest, 4, text(".macro m", ".if 0", ".endif", "; .end"))
	refuses(t, api.ErrNest, 2, text(".macro m", ".macro n", ".end", ".end"))
	refuses(t, api.ErrNest, 3, text(".macro m", "x", "a: .macro", ".end 1"))
	refuses(t, api.ErrOperand, 2, text(".macro m", "a: .end"))
	refuses(t, api.ErrOperand, 3, text(".macro m", "x", ".end 1", ".end"))
	refuses(t, api.ErrOperand, 2, text(".macro m", ".end ,", ".end"))
	refuses(t, api.ErrOperand, 2, text(".macro m,p", ".end \\p", ".end"))
	refuses(t, api.ErrNest, 1, ".end")
	refuses(t, api.ErrNest, 2, text("nop", "a: .end 1,2"))
	refuses(t, api.ErrNest, 3, text(".macro m", ".end", ".end"))
	expands(t, text(".macro m,p", "\\p: .end", "a:.end", ".end", "x"), "5 x")
	expands(t, text(".macro m", ".ends", "; .macro", "x .macro", "x: y .end", ".end", "m"), "7 .ends", "7 x .macro", "7 x: y .end")
}

func TestMacrosWithinCalls(t *testing.T) {
	refuses(t, api.ErrNest, 4, text(".macro m,p", "\\p n", ".end", "m .macro"))
	refuses(t, api.ErrNest, 4, text(".macro m,p", "a: \\p 1,1", ".end", "m .macro"))
	refuses(t, api.ErrNest, 5, text(".macro m,p", "\\p", ".end", "", "m .end"))
	refuses(t, api.ErrNest, 7, text(".macro m,p", "\\p", ".end", ".macro n", "m .macro", ".end", "n"))
	expands(t, text(".macro m,p", ".if 0", "\\p", ".endif", ".end", "m .macro", "m .end"))
}

func TestWrongCalls(t *testing.T) {
	for _, call := range []string{"m", "m 1", "m 1,2,3", "a: m", "m ,,", "m ;1,2"} {
		refuses(t, api.ErrOperand, 5, text(".macro m,p,q", "x", ".end", "", call))
	}
	for _, call := range []string{"m 1", "m ,", "a: m 1"} {
		refuses(t, api.ErrOperand, 4, text(".macro m", "x", ".end", call))
	}
	refuses(t, api.ErrOperand, 8, text(".macro m,p", ".end", ".macro n", "", "m", ".end", "", "n"))
}

func TestWrongBackslashes(t *testing.T) {
	for _, line := range []string{"\\", "\\q", "x \\", "x \\p\\", "\\\\p", "\\ p", "x \\P", "\\: nop", ".else \\", ".endif \\q", ".if \\q", ".set \\", "\\end", "x: \\ .macro", "m \\q", "l: x y,\\1"} {
		refuses(t, api.ErrOperand, 5, text(".macro m,p", line+";", "", ".end\nm 1"))
	}
	refuses(t, api.ErrOperand, 4, text(".macro m,abc", "x \\ab", ".end", "m 1"))
	refuses(t, api.ErrOperand, 5, text(".macro m", "x", "y \\p", ".end", "m"))
	refuses(t, api.ErrOperand, 9, text(".macro m,p", "x \\q", ".end", ".macro n,q", "m \\q", ".end", "", "", "n 1"))
	expands(t, text(".macro m,p", "x ; \\ \\q", "y", ".end", "m 1"), "5 x", "5 y")
	expands(t, "x \\p,\\\n\\", "1 x \\p,\\", "2 \\")
}

func TestLinesThatBecomeTooLong(t *testing.T) {
	most := strings.Repeat("y", 38)
	expands(t, text(".macro m,p", "xxx \\p\\p", ".end", "m "+most), "4 xxx "+most+most)
	expands(t, text(".macro m,p", "xxx \\p\\p;remark", ".end", "m "+most), "4 xxx "+most+most)
	refuses(t, api.ErrText, 4, text(".macro m,p", "xxxx \\p\\p", ".end", "m "+most))
	refuses(t, api.ErrText, 4, text(".macro m,p", "xxx \\p\\p ;", ".end", "m "+most))
	refuses(t, api.ErrText, 4, text(".macro m,p", " xxx \\p\\p", ".end", "m "+most))
	refuses(t, api.ErrText, 4, text(".macro m,p", ".else \\p\\p\\p", ".end", "m "+most))
	refuses(t, api.ErrText, 4, text(".macro m,p", ".if 1,\\p\\p\\p", ".end", "m "+most))
	refuses(t, api.ErrOperand, 4, text(".macro m,p", "x \\p\\p\\p\\q", ".end", "m "+most))
	refuses(t, api.ErrOperand, 4, text(".macro m,p", "x \\q\\p\\p\\p", ".end", "m "+most))
	expands(t, text(".macro m,p", ".if 0", "x \\p\\p\\p", ".endif", ".end", "m "+most))
	short := strings.Repeat("\\p", 40)
	expands(t, text(".macro m,p", short, ".end", "m 12"), "4 "+strings.Repeat("12", 40))
	refuses(t, api.ErrText, 4, text(".macro m,p", short, ".end", "m 123"))
	expands(t, text(".macro m,pp", strings.Repeat("\\pp", 26)+"xx", ".end", "m 123"), "4 "+strings.Repeat("123", 26)+"xx")
	refuses(t, api.ErrText, 4, text(".macro m,pp", strings.Repeat("\\pp", 20)+"x", ".end", "m 1234"))
}

// chain are macros of which each calls the one ahead of it, and a call of the last one.
func chain(count int, first, call string) string {
	all := []string{".macro d1", first, ".end"}
	for i := 2; i <= count; i++ {
		all = append(all, fmt.Sprintf(".macro d%d", i), fmt.Sprintf("d%d", i-1), ".end")
	}
	return text(append(all, fmt.Sprintf(call, count))...)
}

func TestDepthOfMacros(t *testing.T) {
	end := 3*api.MaxDeep + 1
	expands(t, chain(api.MaxDeep, "nop", "d%d"), fmt.Sprintf("%d nop", end))
	refuses(t, api.ErrNest, end+3, chain(api.MaxDeep+1, "nop", "d%d"))
	refuses(t, api.ErrNest, end+3, chain(api.MaxDeep+1, "nop", "d%d\n.end"))
	refuses(t, api.ErrNest, end, chain(api.MaxDeep, "d1 1", "d%d"))
	refuses(t, api.ErrOperand, end-3, chain(api.MaxDeep-1, "d1 1", "d%d"))
	refuses(t, api.ErrNest, 5, text(".macro m", "m", ".end", "", "m"))
	refuses(t, api.ErrNest, 8, text(".macro a", "b", ".end", ".macro b", "a", ".end", "", "b", ".end"))
	count := text(".macro m,p", "x", ".if \\p", "m \\p-1", ".endif", ".end")
	expands(t, count+"\nm 2", "7 x", "7 x", "7 x")
	refuses(t, api.ErrNest, 7, count+"\nm 8")
	var all []string
	for range api.MaxDeep {
		all = append(all, "7 x")
	}
	expands(t, count+"\nm 7", all...)
}

func TestDepthComesBack(t *testing.T) {
	deep := strings.TrimSuffix(chain(api.MaxDeep, "nop", ";%d"), ";8")
	end := 3*api.MaxDeep + 1
	expands(t, deep+"d8\nd8\nd8", fmt.Sprintf("%d nop", end), fmt.Sprintf("%d nop", end+1), fmt.Sprintf("%d nop", end+2))
}

func TestCountOfCalls(t *testing.T) {
	empty := ".macro e\n.end\n"
	last := 2 + api.MaxCalls + 1
	expands(t, empty+strings.Repeat("e\n", api.MaxCalls))
	expands(t, empty+strings.Repeat("e\n", api.MaxCalls)+"x\n.if 0\ne\n.endif", fmt.Sprintf("%d x", last))
	refuses(t, api.ErrSize, last, empty+strings.Repeat("e\n", api.MaxCalls+1))
	refuses(t, api.ErrSize, last, empty+strings.Repeat("e\n", api.MaxCalls)+"a: e\n.end")
	refuses(t, api.ErrOperand, last, empty+strings.Repeat("e\n", api.MaxCalls)+"e 1")
	twenty := empty + ".macro f\n" + strings.Repeat("e\n", 19) + ".end\n"
	expands(t, twenty+strings.Repeat("f\n", 10))
	refuses(t, api.ErrSize, 34, twenty+strings.Repeat("f\n", 11))
	refuses(t, api.ErrNest, 5, empty+".macro f\n.end\n.end\n")
}

func TestLinesLeftOfMacros(t *testing.T) {
	hundred := ".macro m\n" + strings.Repeat("x\n", 100) + ".end\n"
	var all []string
	for _, line := range []int{103, 104, 105} {
		for range 100 {
			all = append(all, fmt.Sprintf("%d x", line))
		}
	}
	expands(t, hundred+"m\nm\nm", all...)
	refuses(t, api.ErrSize, 106, hundred+"m\nm\nm\nm\n.end")
	refuses(t, api.ErrSize, 105, hundred+"m\nm\na: m")
	refuses(t, api.ErrSize, 108, hundred+"m\nm\nm\n.macro n\n.end\na: n")
	expands(t, hundred+"m\nm\nm\n.macro n\n.end\nn", all...)
}
