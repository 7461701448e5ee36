package mason_test

import (
	"math"
	"strconv"
	"strings"
	"testing"

	"mason/api"
	"mason/mason"
)

const here = 20 // the address in the tests that do not ask for another

// knownNames are made anew for each test, so that none can spoil those of another.
func knownNames() []api.Name {
	return []api.Name{
		{Name: "a", Value: 5},
		{Name: "neg", Value: -7},
		{Name: "a", Value: 6},
		{Name: "A", Value: 8},
		{Name: "top", Value: api.MaxValue},
		{Name: "low", Value: -api.MaxValue},
		{Name: "over", Value: api.MaxValue + 1},
		{Name: "over", Value: 1},
		{Name: "under", Value: -api.MaxValue - 1},
		{Name: "most", Value: math.MaxInt},
		{Name: "least", Value: math.MinInt},
		{Name: "eightlet", Value: 2},
		{Name: "ninelette", Value: 2},
		{Name: "r2", Value: 2},
		{Name: "r4", Value: 4},
		{Name: "r22", Value: 22},
		{Name: "", Value: 1},
		{Name: "1", Value: 2},
		{Name: "f", Value: 9},
		{Name: "_", Value: 11},
		{Name: "x9", Value: 12},
	}
}

type valueCase struct {
	expr  string
	want  int
	errno api.Errno
}

func checkValues(t *testing.T, cases []valueCase) {
	t.Helper()
	names := knownNames()
	for _, c := range cases {
		if got, errno := mason.Value(c.expr, here, names); got != c.want || errno != c.errno {
			t.Errorf("Value(%q) = %d, error %d; want %d, error %d", c.expr, got, errno, c.want, c.errno)
		}
	}
}

func good(expr string, want int) valueCase { return valueCase{expr, want, api.OK} }

func wrong(errno api.Errno, exprs ...string) []valueCase {
	var cases []valueCase
	for _, expr := range exprs {
		cases = append(cases, valueCase{expr, 0, errno})
	}
	return cases
}

func TestTerms(t *testing.T) {
	checkValues(t, []valueCase{
		good("0", 0), good("9", 9), good("0123", 123), good("1000000", 1000000),
		good("$0", 0), good("$9", 9), good("$a", 10), good("$f", 15), good("$10", 16), good("$00ff", 255), good("$f4240", 1000000),
		good("'a'", 97), good("' '", 32), good("'$'", 36), good("'0'", 48), good("'\"'", 34), good("'\n'", 10), good("'\x00'", 0), good("'\xff'", 255),
		good(".", here),
		good("a", 5), good("A", 8), good("neg", -7), good("_", 11), good("x9", 12), good("eightlet", 2), good("r4", 4), good("r22", 22), good("top", 1000000), good("low", -1000000),
	})
}

func TestEveryByteQuoted(t *testing.T) {
	for b := range 256 {
		if b == '\'' {
			continue
		}
		expr := string([]byte{'\'', byte(b), '\''})
		if got, errno := mason.Value(expr, 0, nil); got != b || errno != api.OK {
			t.Errorf("Value(%q) = %d, error %d; want %d", expr, got, errno, b)
		}
	}
}

func TestReckoning(t *testing.T) {
	checkValues(t, []valueCase{
		good("2+3*4", 20), good("1+2*3", 9), good("1-2*3", -3), good("2*3+4", 10), good("10-3-2", 5), good("10-3+2", 9), good("2*3*4", 24), good("0*5-1", -1),
		good("-1", -1), good("-0", 0), good("-2+5", 3), good("-2*3", -6), good("-1-1", -2), good("-neg", 7), good("-neg*2", 14), good("-'a'", -97), good("-$10+.", 4), good("-.", -here),
		good("a+A", 13), good("a*neg", -35), good("neg*neg", 49), good(".+.", 40), good(".-a", 15), good("'+'+'-'", 88), good("'*'*'*'", 1764), good("$f+f", 24), good("a-a", 0),
	})
}

func TestBounds(t *testing.T) {
	checkValues(t, []valueCase{
		good("999999+1", 1000000), good("-999999-1", -1000000), good("1000*1000", 1000000), good("-1000*1000", -1000000), good("top-top-top", -1000000), good("-top", -1000000), good("-low", 1000000), good("low+top", 0), good("top*0", 0), good("top*1", 1000000), good("low*1", -1000000),
	})
	checkValues(t, wrong(api.ErrValue,
		"1000001", "$f4241", "-1000001", "-$f4241", "over", "under", "most", "least", "-over", "-under", "-most", "-least",
		"1000000+1", "top+1", "-1000000-1", "low-1", "1000*1001", "-1000*1001", "top*top", "low*top", "low*low", "1*1000001", "0*1000001", "0+over", "1-over", "0*most", "0*under", "0*least", "1+under", "top+under", "low-under", "top+least", "-1-least",
		"top+1-1", "low-1+1", "top*2*0", "top+top-top", "1000001-1", "over-1",
		"2147483648", "4294967296", "9223372036854775808", "18446744073709551616", "18446744073709551617", "$100000000", "$10000000000000000", "$ffffffffffffffff"))
}

func TestWrongExpressions(t *testing.T) {
	checkValues(t, wrong(api.ErrOperand,
		"", "-", "+", "*", "+1", "*1", "--1", "-+1", "1+", "1-", "1*", "1++1", "1--1", "1*-1", "1+*1", "-1*-1", "1+2+",
		" ", " 1", "1 ", "1 +1", "1+ 1", "1\n", "\t1", "1/2", "1%2", "(1)", "1,2", "1;", "1:", "1=1", "!1", "~1", "\\a", "#", "@", "\"a\"",
		"$", "$+1", "$g", "$A", "$F", "$ 1", "$$1", "$-1", "$1g", "$aF", "1$1", "12f", "1a", "0x10", "1_", "1.", "..", ".1", ".a", "a.", "a$1", "a'b'",
		"'", "''", "'''", "''''", "'a", "'ab'", "'a'b", "'a''b'", "'é'", "'a'1", "1'a'", "'\\''",
		"r0", "r1", "r2", "r3", "-r0", "r2+1", "1+r2", "ninelette", "1+ninelette", "eightlet9", "_________", "é", "aé", "a\x00", "\x00", "\xff", "a\xff"))
	checkValues(t, wrong(api.ErrUnknown,
		"b", "B", "aa", "Neg", "nEg", "r", "r5", "r00", "R0", "r2_", "__", "x", "x99", "eightle", "ightlett", "-b", "1+b", "a*b", "abcdef", "top-b"))
}

func TestFirstErrorIsTold(t *testing.T) {
	checkValues(t, wrong(api.ErrOperand, "1a+b", "1+ +over", "..+over", "$+b", "'ab'+b", "ninelette+b", "r1+over", "1++b", "--b", "--over", "a a+over", "1)+1000001", "top(+1"))
	checkValues(t, wrong(api.ErrUnknown, "b+", "b b", "b.", "b'", "-b-", "b+over", "b+1000001", "b+r1", "b$", "b*top*top", "1+b+", "1-b-over", "b\xff"))
	checkValues(t, wrong(api.ErrValue, "1000001+", "1000001x", "1000001 ", "1000001$", "$f4241g", "$f4241G", "over+", "over.", "over+b", "over b", "top+1+", "top+1x", "top+1+b", "1000*1001x", "low-1.", "1000001+b", "over+r1", "-over+", "1+over)", "top+top*"))
}

func TestAddresses(t *testing.T) {
	for _, at := range []int{0, 1, -1, 999, api.MaxValue - 1, api.MaxValue, api.MaxValue + 1, -api.MaxValue, -api.MaxValue - 1, math.MaxInt32, math.MinInt32, math.MaxInt, math.MaxInt - 1, math.MinInt, math.MinInt + 1} {
		want, wantErrno := at, api.OK
		if at < -api.MaxValue || at > api.MaxValue {
			want, wantErrno = 0, api.ErrValue
		}
		for expr, sign := range map[string]int{".": 1, "-.": -1, "0+.": 1, "0-.": -1, "1*.": 1} {
			if got, errno := mason.Value(expr, at, nil); got != sign*want || errno != wantErrno {
				t.Errorf("Value(%q, %d) = %d, error %d", expr, at, got, errno)
			}
		}
		if got, errno := mason.Value("7", at, nil); got != 7 || errno != api.OK {
			t.Errorf("an address that no term asks for counts: Value(7, %d) = %d, error %d", at, got, errno)
		}
	}
}

func TestFirstOfTwoNamesCounts(t *testing.T) {
	for _, c := range []struct {
		first, second, want int
		errno               api.Errno
	}{
		{1, 2, 1, api.OK},
		{2, 1, 2, api.OK},
		{api.MaxValue + 1, 1, 0, api.ErrValue},
		{1, api.MaxValue + 1, 1, api.OK},
	} {
		names := []api.Name{{Name: "other", Value: 9}, {Name: "n", Value: c.first}, {Name: "n", Value: c.second}}
		if got, errno := mason.Value("n", 0, names); got != c.want || errno != c.errno {
			t.Errorf("n of %v is %d, error %d", names, got, errno)
		}
	}
}

func TestNamesThatAreNotAskedFor(t *testing.T) {
	names := []api.Name{{Name: "big", Value: math.MinInt}, {Name: "é"}, {Name: "+"}}
	for _, list := range [][]api.Name{nil, {}, names} {
		if got, errno := mason.Value("1+1", 0, list); got != 2 || errno != api.OK {
			t.Errorf("Value(1+1) with %v = %d, error %d", list, got, errno)
		}
		if got, errno := mason.Value("é", 0, list); got != 0 || errno != api.ErrOperand {
			t.Errorf("Value(é) with %v = %d, error %d", list, got, errno)
		}
	}
}

func TestLongExpressions(t *testing.T) {
	ones := strings.Repeat("1+", api.MaxValue-1)
	checkValues(t, []valueCase{
		good(ones+"1", api.MaxValue),
		{ones + "1+1", 0, api.ErrValue},
		{ones, 0, api.ErrOperand},
		good(strings.Repeat("0", 1<<20)+"8", 8),
		good("$"+strings.Repeat("0", 1<<20)+"b", 11),
		{strings.Repeat("9", 1<<20), 0, api.ErrValue},
		{"$" + strings.Repeat("f", 1<<20), 0, api.ErrValue},
		{strings.Repeat("a", 1<<20), 0, api.ErrOperand},
		{strings.Repeat("-", 1<<20), 0, api.ErrOperand},
		{strings.Repeat("'", 1<<20), 0, api.ErrOperand},
	})
}

func TestDecimalNumbersAroundTheBounds(t *testing.T) {
	for number := api.MaxValue - 3; number <= api.MaxValue+3; number++ {
		want, wantErrno := number, api.OK
		if number > api.MaxValue {
			want, wantErrno = 0, api.ErrValue
		}
		for _, expr := range []string{strconv.Itoa(number), "$" + strconv.FormatInt(int64(number), 16), "000" + strconv.Itoa(number)} {
			if got, errno := mason.Value(expr, 0, nil); got != want || errno != wantErrno {
				t.Errorf("Value(%q) = %d, error %d", expr, got, errno)
			}
			if got, errno := mason.Value("-"+expr, 0, nil); got != -want || errno != wantErrno {
				t.Errorf("Value(%q) = %d, error %d", "-"+expr, got, errno)
			}
		}
	}
}
