package mason_test

import (
	"math/big"
	"regexp"
	"strings"
	"testing"

	"mason/api"
	"mason/mason"
)

var (
	termForm = regexp.MustCompile(`^([0-9]+|\$[0-9a-f]+|'[^']'|\.|[A-Za-z_][A-Za-z_0-9]*)`)
	register = regexp.MustCompile(`^r[0-3]$`)
	bound    = big.NewInt(api.MaxValue)
)

// slowTerm reads one term by other means than the program's own: patterns and numbers without bounds.
func slowTerm(text string, at int, names []api.Name) (*big.Int, string, api.Errno) {
	term := termForm.FindString(text)
	rest := text[len(term):]
	number := big.NewInt(int64(at))
	switch {
	case term == "":
		return nil, "", api.ErrOperand
	case term == ".":
	case term[0] == '\'':
		number.SetInt64(int64(term[1]))
	case term[0] == '$':
		number.SetString(term[1:], 16)
	case strings.Trim(term, "0123456789") == "":
		number.SetString(term, 10)
	case len(term) > api.MaxName || register.MatchString(term):
		return nil, "", api.ErrOperand
	default:
		found := false
		for i := len(names) - 1; i >= 0; i-- {
			if names[i].Name == term {
				found = true
				number.SetInt64(int64(names[i].Value))
			}
		}
		if !found {
			return nil, "", api.ErrUnknown
		}
	}
	if number.CmpAbs(bound) > 0 {
		return nil, "", api.ErrValue
	}
	return number, rest, api.OK
}

func slowValue(text string, at int, names []api.Name) (int, api.Errno) {
	unsigned, minus := strings.CutPrefix(text, "-")
	sum, rest, errno := slowTerm(unsigned, at, names)
	if errno != api.OK {
		return 0, errno
	}
	if minus {
		sum.Neg(sum)
	}
	for rest != "" {
		reckon := map[byte]func(x, y *big.Int) *big.Int{'+': sum.Add, '-': sum.Sub, '*': sum.Mul}[rest[0]]
		if reckon == nil {
			return 0, api.ErrOperand
		}
		var number *big.Int
		number, rest, errno = slowTerm(rest[1:], at, names)
		if errno != api.OK {
			return 0, errno
		}
		if reckon(sum, number).CmpAbs(bound) > 0 {
			return 0, api.ErrValue
		}
	}
	return int(sum.Int64()), api.OK
}

// eachText calls f with every text of at most count of the pieces.
func eachText(pieces []string, count int, f func(text string)) {
	var grow func(text string, left int)
	grow = func(text string, left int) {
		f(text)
		if left == 0 {
			return
		}
		for _, piece := range pieces {
			grow(text+piece, left-1)
		}
	}
	grow("", count)
}

func TestValueAgainstReference(t *testing.T) {
	names := knownNames()
	check := func(text string) {
		want, wantErrno := slowValue(text, here, names)
		if got, errno := mason.Value(text, here, names); got != want || errno != wantErrno {
			t.Errorf("Value(%q) = %d, error %d; want %d, error %d", text, got, errno, want, wantErrno)
		}
	}
	eachText([]string{"1", "a", "b", "r", "$", "'", ".", "+", "-", "*", " "}, 5, check)
	eachText([]string{"1000000", "1000001", "$f4240", "'a'", ".", "neg", "b", "over", "low", "r1", "eightlet", "+", "-", "*", "1"}, 4, check)
	eachText([]string{"1000", "top", "over", "under", "b", "+", "-", "*"}, 6, check)
}
