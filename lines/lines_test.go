package lines

import (
	"slices"
	"strings"
	"testing"

	"mason/api"
)

func TestSplit(t *testing.T) {
	full := strings.Repeat("~", api.MaxLine)
	for text, want := range map[string][]string{
		"":                                {""},
		"\n":                              {"", ""},
		"a":                               {"a"},
		"a\n":                             {"a", ""},
		"\na\n\nb":                        {"", "a", "", "b"},
		" ~;":                             {" ~;"},
		full + "\n" + full:                {full, full},
		strings.Repeat("\n", api.MaxText): make([]string, api.MaxText+1),
	} {
		got, errno, number := Split(text)
		if !slices.Equal(got, want) || errno != api.OK || number != 0 {
			t.Errorf("Split(%q) = %q, error %d, line %d", text, got, errno, number)
		}
	}
}

func TestSplitOfWrongTexts(t *testing.T) {
	long := strings.Repeat("x", api.MaxLine+1)
	for text, want := range map[string]int{
		strings.Repeat("\n", api.MaxText+1):      0,
		strings.Repeat("\x00", api.MaxText+1):    0,
		long + strings.Repeat("\n", api.MaxText): 0,
		long:                                     1,
		"a\n" + long + "\n\t":                    2,
		"a\n\nb\t\n" + long:                      3,
		"\r\n":                                   1,
		"a\n; \x7f":                              2,
		"a\nb\n\x1f":                             3,
		"é":                                      1,
		"\n\xff":                                 2,
		strings.Repeat(";", 81) + "\n":           1,
	} {
		got, errno, number := Split(text)
		if got != nil || errno != api.ErrText || number != want {
			t.Errorf("Split(%q) = %q, error %d, line %d, want line %d", text, got, errno, number, want)
		}
	}
}

func TestEveryByteOfALine(t *testing.T) {
	for b := range 256 {
		text := string([]byte{'a', byte(b)})
		want := api.ErrText
		if b >= 32 && b <= 126 || b == 10 {
			want = api.OK
		}
		if _, errno, _ := Split(text); errno != want {
			t.Errorf("Split(%q): error %d, want %d", text, errno, want)
		}
	}
}

func TestWithoutRemark(t *testing.T) {
	for line, want := range map[string]string{
		"": "", ";": "", "a": "a", " a ": " a ", "a ;b": "a ", "a;b;c": "a", ";a": "", "';'": "'", "a\\;p": "a\\",
	} {
		if got := WithoutRemark(line); got != want {
			t.Errorf("WithoutRemark(%q) = %q, want %q", line, got, want)
		}
	}
}

func TestParts(t *testing.T) {
	for _, c := range []struct {
		line, label, operation, operands, text string
		count                                  int
	}{
		{"", "", "", "", "", 0},
		{"   ", "", "", "", "", 0},
		{" ; a: b", "", "", "", "", 0},
		{"nop", "", "nop", "", "nop", 0},
		{"  nop  ", "", "nop", "", "nop", 0},
		{"a:", "a", "", "", "a:", 0},
		{" a: ;", "a", "", "", "a:", 0},
		{"a: nop", "a", "nop", "", "a: nop", 0},
		{" a:  nop  ;x", "a", "nop", "", "a: nop", 0},
		{"a:nop", "", "a:nop", "", "a:nop", 0},
		{"a:nop b", "", "a:nop", "b", "a:nop b", 1},
		{"a : nop", "", "a", ":nop", "a :nop", 1},
		{": nop", "", ":", "nop", ": nop", 1},
		{"a:: nop", "", "a::", "nop", "a:: nop", 1},
		{"1: nop", "", "1:", "nop", "1: nop", 1},
		{"r3: nop", "", "r3:", "nop", "r3: nop", 1},
		{"r4: nop", "r4", "nop", "", "r4: nop", 0},
		{".a: nop", "", ".a:", "nop", ".a: nop", 1},
		{"\\p: nop", "", "\\p:", "nop", "\\p: nop", 1},
		{"eightlet: nop", "eightlet", "nop", "", "eightlet: nop", 0},
		{"ninelette: nop", "", "ninelette:", "nop", "ninelette: nop", 1},
		{"a: b: nop", "a", "b:", "nop", "a: b: nop", 1},
		{"a: b: c: d", "a", "b:", "c:d", "a: b: c:d", 1},
		{"add r1 , r 2", "", "add", "r1|r2", "add r1,r2", 2},
		{"a: add  r1,r2 ; r3,r4", "a", "add", "r1|r2", "a: add r1,r2", 2},
		{"add,r1 r2", "", "add,r1", "r2", "add,r1 r2", 1},
		{"x ,", "", "x", "|", "x ,", 2},
		{"x , ,", "", "x", "||", "x ,,", 3},
		{"x a,", "", "x", "a|", "x a,", 2},
		{"x ,a", "", "x", "|a", "x ,a", 2},
		{"x ' '", "", "x", "''", "x ''", 1},
		{"x ','", "", "x", "'|'", "x ','", 2},
		{"x ';'", "", "x", "'", "x '", 1},
	} {
		got := Read(c.line)
		if got.Label != c.label || got.Operation != c.operation || strings.Join(got.Operands, "|") != c.operands || len(got.Operands) != c.count {
			t.Errorf("Read(%q) = %q", c.line, got)
		}
		if got.Text() != c.text {
			t.Errorf("Read(%q).Text() = %q, want %q", c.line, got.Text(), c.text)
		}
		if again := Read(c.text).Text(); again != c.text {
			t.Errorf("the text %q becomes %q where it is read again", c.text, again)
		}
		if bare := c.label == "" && c.count == 0; got.IsBare() != bare {
			t.Errorf("Read(%q).IsBare() = %t", c.line, got.IsBare())
		}
	}
}
