package expression

import (
	"strings"
	"testing"

	"mason/api"
)

func TestNames(t *testing.T) {
	for _, word := range []string{"a", "z", "A", "Z", "_", "__", "_1", "a0", "Z_9", "r", "r4", "r9", "r00", "r01", "r1_", "R0", "R3", "s0", "_r1", strings.Repeat("n", api.MaxName), "r1234567"} {
		if !IsName(word) {
			t.Errorf("%q is no name, but should be", word)
		}
	}
	for _, word := range []string{"", "0", "1a", "9", "r0", "r1", "r2", "r3", "a b", " a", "a ", "a.", ".a", "a-b", "a:", "@", "[", "`", "{", "/", "é", "aé", "a\x00", strings.Repeat("n", api.MaxName+1), strings.Repeat("_", 1000)} {
		if IsName(word) {
			t.Errorf("%q is a name, but should be none", word)
		}
	}
}

func TestNamesOfEveryByte(t *testing.T) {
	const letters = "abcdefghijklmnopqrstuvwxyzABCDEFGHIJKLMNOPQRSTUVWXYZ_"
	for b := range 256 {
		one := string([]byte{byte(b)})
		first := strings.Contains(letters, one)
		if got := IsName(one); got != first {
			t.Errorf("IsName(%q) = %t", one, got)
		}
		behind := first || '0' <= b && b <= '9'
		if got := IsName("x" + one); got != behind {
			t.Errorf("IsName(%q) = %t", "x"+one, got)
		}
	}
}

func TestRegisters(t *testing.T) {
	for i, word := range []string{"r0", "r1", "r2", "r3"} {
		if number, found := Register(word); number != i || !found {
			t.Errorf("Register(%q) = %d, %t", word, number, found)
		}
	}
	for _, word := range []string{"", "r", "0", "r4", "r9", "r/", "r00", "r1 ", " r1", "R1", "s1", "1r", "r-1", "rr", "r1,", "r\x00"} {
		if number, found := Register(word); number != 0 || found {
			t.Errorf("Register(%q) = %d, %t", word, number, found)
		}
	}
}
