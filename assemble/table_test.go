package assemble

import (
	"maps"
	"slices"
	"strings"
	"testing"

	"mason/api"
)

// documented are the operations of the document's table that make bytes, sorted.
var documented = []string{".align", ".byte", ".space", ".word", "add", "call", "jmp", "jz", "load", "mov", "nop", "ret", "sub"}

// agree fails if the table and the function do not say the same of a name.
func agree(t *testing.T, name string) {
	t.Helper()
	listed, inTable := operations[name]
	answered, found := operationOf(name)
	if listed != answered || inTable != found {
		t.Errorf("of %q the table says %+v, %t; the function %+v, %t", name, listed, inTable, answered, found)
	}
	if IsOperation(name) != inTable {
		t.Errorf("IsOperation(%q) = %t, in the table: %t", name, !inTable, inTable)
	}
}

func TestTheTableHasAllOperations(t *testing.T) {
	if names := slices.Sorted(maps.Keys(operations)); !slices.Equal(names, documented) {
		t.Errorf("the table has %q, want %q", names, documented)
	}
}

func TestTableAndFunctionSayTheSame(t *testing.T) {
	for _, name := range documented {
		agree(t, name)
		if _, found := operationOf(name); !found {
			t.Errorf("there is no operation %q", name)
		}
	}
	for name := range operations {
		agree(t, name)
	}
}

func TestNeitherHasOtherNames(t *testing.T) {
	none := []string{"foo", ".set", "", "NOP", "nop ", ".if", ".else", ".endif", ".macro", ".end", "r0", " ", ".", "é", "\x00", strings.Repeat("nop", 1000)}
	for _, name := range documented {
		none = append(none, strings.ToUpper(name), name+" ", name+"x", " "+name, name+":", "."+name, name+name, name[1:], name[:len(name)-1], name+"\x00")
	}
	for _, name := range none {
		agree(t, name)
		if does, found := operationOf(name); found || does != (operation{}) {
			t.Errorf("operationOf(%q) = %+v, %t; want none", name, does, found)
		}
	}
}

func TestTableAndFunctionSayTheSameOfAllShortNames(t *testing.T) {
	const letters = ".abcdefghijklmnopqrstuvwxyz"
	var grow func(name string, left int)
	grow = func(name string, left int) {
		agree(t, name)
		if left == 0 {
			return
		}
		for i := range len(letters) {
			grow(name+letters[i:i+1], left-1)
		}
	}
	grow("", 4)
}

// withoutTable calls f while the table is empty.
func withoutTable(f func()) {
	kept := operations
	defer func() { operations = kept }()
	operations = nil
	f()
}

func TestAssembleDoesNotReadTheTable(t *testing.T) {
	text := strings.Join([]string{"nop", "ret", "mov r1,r2", "add r1,r2", "sub r1,r2", "load r3,1", "call 258", "jmp .", "jz r1,.", "jmp 300", ".byte 1,2", ".word 3", ".space 2", ".align 16"}, "\n")
	want := []byte{0, 161, 70, 86, 102, 19, 1, 160, 2, 1, 128, 254, 133, 254, 129, 44, 1, 1, 2, 3, 0, 0, 0}
	want = append(want, make([]byte, 32-len(want))...)
	withoutTable(func() {
		program, errno, line := Assemble(text)
		if !slices.Equal(program.Bytes, want) || errno != api.OK || line != 0 {
			t.Errorf("without the table Assemble makes %v, error %d, line %d; want %v", program.Bytes, errno, line, want)
		}
		if _, errno, line = Assemble("nop\nfoo"); errno != api.ErrOp || line != 2 {
			t.Errorf("without the table the error of foo is %d, line %d", errno, line)
		}
	})
}

func TestIsOperationReadsTheTable(t *testing.T) {
	withoutTable(func() {
		for _, name := range documented {
			if IsOperation(name) {
				t.Errorf("IsOperation(%q) holds without the table", name)
			}
		}
	})
	for _, name := range documented {
		if !IsOperation(name) {
			t.Errorf("IsOperation(%q) does not hold", name)
		}
	}
}
