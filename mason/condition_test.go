package mason_test

import (
	"fmt"
	"strings"
	"testing"

	"mason/api"
)

func TestConditions(t *testing.T) {
	for value, there := range map[string]bool{"1": true, "0": false, "-1": true, "1-1": false, ".": false, ".+1": true, "'0'": true, "$0": false, "1000000": true, "0 * 7": false, "2 - 1": true} {
		if there {
			expands(t, text(".if "+value, "a", ".else", "b", ".endif", "c"), "2 a", "6 c")
			expands(t, text(".if "+value, "a", ".endif", "c"), "2 a", "4 c")
		} else {
			expands(t, text(".if "+value, "a", ".else", "b", ".endif", "c"), "4 b", "6 c")
			expands(t, text(".if "+value, "a", ".endif", "c"), "4 c")
		}
	}
	expands(t, text(".if 1", ".endif"))
	expands(t, text(".if 1", ".else ;x", ".endif ; y"))
}

func TestConditionsWithinOthers(t *testing.T) {
	form := text(".if %d", ".if %d", "a", ".else", "b", ".endif", "c", ".else", "d", ".if %d", "e", ".endif", "f", ".endif", "g")
	for outer := range 2 {
		for inner := range 2 {
			for other := range 2 {
				var want []string
				switch {
				case outer == 1 && inner == 1:
					want = append(want, "3 a", "7 c")
				case outer == 1:
					want = append(want, "5 b", "7 c")
				case other == 1:
					want = append(want, "9 d", "11 e", "13 f")
				default:
					want = append(want, "9 d", "13 f")
				}
				expands(t, fmt.Sprintf(form, outer, inner, other), append(want, "15 g")...)
			}
		}
	}
}

func TestLinesPassedOver(t *testing.T) {
	rubbish := text(".if x,y", "z: .else 1", "q: .endif 2", ".set", ".set a,z", ".macro", ".end", ".end 1", "\\", "m 1", "l: .if", ".endif", "; .endif", "x .endif", ".endif:")
	expands(t, text(".if 0", rubbish, ".endif"))
	expands(t, text(".if 1", ".else", rubbish, ".endif"))
	expands(t, text(".if 0", ".if 1", rubbish, ".else", rubbish, ".endif", ".endif"))
	expands(t, text(".macro m", ".end", ".if 0", rubbish, ".else", "x", ".endif"), "20 x")
	expands(t, text(".macro n,p", ".if 0", "\\p", "\\", ".set", "n", "l\\p: .endif", "l: .if \\q", "k: .else \\", ".endif \\q", ".endif", ".end", "n .endif", "n .else", "n :"))
	expands(t, text(".if 0", ".macro m", ".endif", "x"), "4 x")
	refuses(t, api.ErrUnknown, 4, text(".if 0", ".set a,1", ".endif", ".if a"))
	refuses(t, api.ErrNest, 4, text(".if 0", ".macro m", ".endif", ".end"))
}

func TestWrongConditions(t *testing.T) {
	for _, line := range []string{".if", ".if 1,2", "a: .if 1", "a: .if", ".if 1+", ".if ,", ".if r1", ".if ''", ".if ' '", ".if ';'", ".if \\p", ".if (1)", "a: .if b", ".if b,b"} {
		refuses(t, api.ErrOperand, 2, text("nop", line, ".endif"))
	}
	for _, line := range []string{".if a", ".if 1+a", ".if nop"} {
		refuses(t, api.ErrUnknown, 2, text("a: nop", line, ".endif"))
	}
	refuses(t, api.ErrValue, 2, text("nop", ".if 1000001", ".endif"))
	refuses(t, api.ErrValue, 1, ".if 1000*1001")
}

func TestConditionsThatDoNotBelongTogether(t *testing.T) {
	for s, line := range map[string]int{
		".else": 1, ".endif": 1, "a: .else 1": 1, "nop\na: .endif 1": 2,
		".if 1\n.else\n.else": 3, ".if 0\n.else\n.else": 3, ".if 1\n.else\na: .else 1": 3,
		".if 0\n.if 1\n.else\n.else": 4, ".if 0\n.if 0\nx: .else 1\ny: .else 2\n": 4, ".if 1\n.else\n.if 1\n.else\n.else": 5,
		".if 1\n.endif\n.endif": 3, ".if 0\n.endif\n.endif": 3, ".if 0\n.if 0\n.endif\n.endif\n.else": 5,
		".if 1": 1, ".if 0": 1, ".if 0\n\n": 3, ".if 1\n.else": 2, ".if 0\n.else\n": 3, ".if 1\n.if 1\n.endif\nx": 4, ".if 0\n.if 1\n.endif": 3,
		".if 1\nx\n; .endif": 3,
	} {
		refuses(t, api.ErrNest, line, s)
	}
}

func TestLabelsAndOperandsOfElseAndEndif(t *testing.T) {
	for _, end := range []string{".else", ".endif"} {
		missing := strings.TrimSuffix(".endif", end) // what ends the inner condition, if end does not
		for _, wrong := range []string{"a: " + end, end + " 1", end + " ,", "a: " + end + " 1"} {
			for _, value := range []string{"0", "1"} {
				refuses(t, api.ErrOperand, 3, text(".if "+value, "x", wrong, ".endif"))
				refuses(t, api.ErrOperand, 4, text(".if 1", ".if "+value, "x", wrong, ".endif", ".endif"))
				refuses(t, api.ErrOperand, 4, text(".if 0", ".else", ".if "+value, wrong, ".endif", ".endif"))
				expands(t, text(".if 0", ".if "+value, wrong, missing, ".endif"))
			}
		}
	}
	refuses(t, api.ErrOperand, 3, text(".if 1", ".else", "a: .endif"))
	refuses(t, api.ErrOperand, 3, text(".if 0", ".else", ".endif 1"))
}

func TestDepthOfConditions(t *testing.T) {
	for _, value := range []string{"0", "1"} {
		ifs, endifs := strings.Repeat(".if "+value+"\n", api.MaxDeep), strings.Repeat(".endif\n", api.MaxDeep)
		want := []string{"9 x"}
		if value == "0" {
			want = nil
		}
		expands(t, ifs+"x\n"+endifs, want...)
		refuses(t, api.ErrNest, api.MaxDeep+1, ifs+".if 1\n.endif\n"+endifs)
		refuses(t, api.ErrNest, api.MaxDeep+1, ifs+"a: .if 1,z\n.endif\n"+endifs)
		refuses(t, api.ErrNest, api.MaxDeep+2, ifs+".else\n.if 1\n.endif\n"+endifs)
		expands(t, ifs+endifs+ifs+endifs)
	}
	expands(t, strings.Repeat(".if 1\n.endif\n", 100))
}

func TestConditionsOfMacrosAreTheirOwn(t *testing.T) {
	ifs, endifs := strings.Repeat(".if 1\n", api.MaxDeep), strings.Repeat(".endif\n", api.MaxDeep)
	expands(t, ".macro m\n"+ifs+"x\n"+endifs+".end\n"+ifs+"m\n"+endifs, "28 x")
	refuses(t, api.ErrNest, 23, ".macro m\n"+ifs+".if 1\n.endif\n"+endifs+".end\n\n\nm")
	for _, line := range []string{".endif", ".else", ".if 1", ".if 0", ".if 1\n.else"} {
		body := text(".macro m", line, ".end", ".if 1", "x", "m", ".endif")
		refuses(t, api.ErrNest, 6+strings.Count(line, "\n"), body)
	}
	refuses(t, api.ErrNest, 10, text(".macro m", ".if 1", ".end", ".macro n", ".if 1", "m", ".endif", ".end", "", "n", ".endif"))
	refuses(t, api.ErrNest, 5, text(".macro m,p", ".if \\p", "nop", ".end", "m 0"))
	expands(t, text(".macro m,p", ".if \\p", "a", ".else", "\\p: b", ".endif ; \\", ".end", "m 0", "m 1", ".if 0", "m", ".endif"), "8 0: b", "9 a")
}

func TestElseAndEndifOfMacros(t *testing.T) {
	body := func(value, last string) string {
		return text(".macro m,p,q", ".if "+value, last, ".endif", ".end", "m ,")
	}
	// Behind lines that are there the operand counts, which is nothing; behind lines that are passed over what stands there.
	expands(t, body("1", ".else \\p"))
	refuses(t, api.ErrOperand, 6, body("0", ".else \\p"))
	refuses(t, api.ErrOperand, 6, body("1", ".else \\"))
	refuses(t, api.ErrOperand, 6, body("0", ".else \\"))
	refuses(t, api.ErrNest, 7, text(".macro m,p", ".if 1", "x", "\\p", ".endif", ".end", "m .endif"))
	expands(t, text(".macro m,p", ".if 1", "x", "\\p", "y", ".endif", ".end", "m .else"), "8 x")
	expands(t, text(".macro m,p", ".if 0", "x", "\\p", "y", ".endif", ".end", "m .else"))
	expands(t, text(".macro m,p", ".if 1", "x", "\\p", ".end", "m .endif"), "6 x")
	expands(t, text(".macro m,p", "\\p 0", "x", ".endif", ".end", "m .if"))
	expands(t, text(".macro m,p", ".if 0", "\\p: .else", "x", ".endif", ".end", "m a"))
	refuses(t, api.ErrOperand, 7, text(".macro m,p", ".if 1", "\\p: .else", "x", ".endif", ".end", "m a"))
}

func TestSet(t *testing.T) {
	expands(t, text(".set a,2", " .set b , a * a ; x", ".if b-4", "x", ".endif", ".if a", "y", ".endif"), "1 .set a,2", "2 .set b,a*a", "7 y")
	expands(t, text(".set a,.", ".set b,a-1", ".if b+1", "x", ".endif"), "1 .set a,.", "2 .set b,a-1")
	expands(t, text(".macro k,p,v", ".set \\p,\\v", ".end", "k a,7", "k b,a-7", ".if b", "x", ".else", "y", ".endif"), "4 .set a,7", "5 .set b,a-7", "9 y")
	expands(t, text(".macro m", ".if a", "x", ".endif", ".end", ".set a,1", "m"), "6 .set a,1", "7 x")
	expands(t, text(".set m,1", ".macro m", ".end", ".set nop,1", "m:", "nop"), "1 .set m,1", "4 .set nop,1", "5 m:", "6 nop")
	expands(t, text("a: nop", ".set a,1", "a: nop"), "1 a: nop", "2 .set a,1", "3 a: nop")
	expands(t, text(".if 1", ".set a,1", ".else", ".set a,2", ".endif", ".if a-1", "x", ".endif"), "2 .set a,1")
}

func TestWrongSet(t *testing.T) {
	for _, line := range []string{".set", ".set a", ".set a,1,2", "x: .set a,1", "x: .set", ".set ,,", "x: .set k,1", ".set 1", ".set k,1,1", ".set a,", ".set a,r1", ".set a,1+", ".set a,\\p"} {
		refuses(t, api.ErrOperand, 2, text(".set k,0", line))
	}
	for _, line := range []string{".set 1,2", ".set r1,1", ".set ninelette,1", ".set ,1", ".set ,", ".set k,1", ".set k,", ".set k,z", ".set k,k", ".set a:,1", ".set .,1", ".set r0,z"} {
		refuses(t, api.ErrName, 2, text(".set k,0", line))
	}
	for _, line := range []string{".set a,a", ".set a,b", ".set a,k+b", ".set b,b", ".set a,l"} {
		refuses(t, api.ErrUnknown, 3, text(".set k,0", "l: nop", line, ".set b,1"))
	}
	refuses(t, api.ErrValue, 2, text("nop", ".set a,1000*1001"))
	refuses(t, api.ErrValue, 2, text(".set a,1000000", ".set b,a+1"))
	refuses(t, api.ErrName, 5, text(".macro m", ".set a,1", ".end", "m", "m"))
}
