package mason_test

import (
	"cmp"
	"math/rand/v2"
	"regexp"
	"slices"
	"strings"
	"testing"

	"mason/api"
	"mason/mason"
)

// The slow reading of texts goes down into conditions and calls by functions that call themselves, takes lines apart by patterns, and leaves by a panic where an error is met.
type slowText struct {
	number int
	deep   int
	calls  int
	macros map[string]slowMacro
	names  []api.Name
	left   []api.Line
}

type slowMacro struct {
	parameters, lines []string
}

type slowLine struct {
	label, operation string
	operands         []string
}

// slowLines are those that are still to come, and how each of them is read, if it is not passed over.
type slowLines struct {
	rest  []string
	ofAll bool
	read  func(line string) string
}

type slowFault struct{ errno api.Errno }

var (
	lineForm  = regexp.MustCompile(`^ *(?:([A-Za-z_][A-Za-z0-9_]{0,7}): +)?([^ ]+)(.*)$`)
	labelForm = regexp.MustCompile(`^ *([A-Za-z_][A-Za-z0-9_]{0,7}): *$`)
	nameForm  = regexp.MustCompile(`^[A-Za-z_][A-Za-z0-9_]{0,7}$`)
	wrongForm = regexp.MustCompile(`[^ -~]|.{81}`)
)

func slowIsName(word string) bool {
	return nameForm.MatchString(word) && !register.MatchString(word)
}

func slowRead(line string) slowLine {
	line, _, _ = strings.Cut(line, ";")
	if found := labelForm.FindStringSubmatch(line); found != nil && slowIsName(found[1]) {
		return slowLine{label: found[1]}
	}
	found := lineForm.FindStringSubmatch(line)
	if found == nil {
		return slowLine{}
	}
	if found[1] != "" && !slowIsName(found[1]) {
		found[1], found[2], found[3] = "", found[1]+":", found[2]+found[3]
	}
	read := slowLine{label: found[1], operation: found[2]}
	if all := strings.Join(strings.Fields(found[3]), ""); all != "" {
		read.operands = strings.Split(all, ",")
	}
	return read
}

func fault(errno api.Errno, wrong bool) {
	if wrong {
		panic(slowFault{errno})
	}
}

func slowExpand(text string) (left []api.Line, errno api.Errno, number int) {
	if len(text) > api.MaxText {
		return nil, api.ErrText, 0
	}
	all := strings.Split(text, "\n")
	if i := slices.IndexFunc(all, wrongForm.MatchString); i >= 0 {
		return nil, api.ErrText, i + 1
	}
	s := &slowText{macros: map[string]slowMacro{}}
	defer func() {
		switch caught := recover().(type) {
		case nil:
		case slowFault:
			left, errno, number = nil, caught.errno, s.number
		default:
			panic(caught)
		}
	}()
	s.whole(&slowLines{rest: all, ofAll: true, read: func(line string) string { return line }})
	return s.left, api.OK, 0
}

func (s *slowText) whole(from *slowLines) {
	_, ended := s.block(from, false, 0)
	fault(api.ErrNest, ended)
}

func (s *slowText) next(from *slowLines) string {
	line := from.rest[0]
	from.rest = from.rest[1:]
	if from.ofAll {
		s.number++
	}
	return line
}

// block does the lines up to the end, or up to an .else or .endif that belongs to none of them, which it answers.
func (s *slowText) block(from *slowLines, passed bool, deep int) (slowLine, bool) {
	for len(from.rest) > 0 {
		line := s.next(from)
		if !passed {
			line = from.read(line)
		}
		read := slowRead(line)
		switch {
		case read.operation == ".else" || read.operation == ".endif":
			return read, true
		case read.operation == ".if":
			s.condition(from, read, passed, deep)
		case !passed:
			s.other(from, read)
		}
	}
	return slowLine{}, false
}

func (s *slowText) condition(from *slowLines, read slowLine, passed bool, deep int) {
	fault(api.ErrNest, deep >= api.MaxDeep)
	value := 0
	if !passed {
		fault(api.ErrOperand, read.label != "" || len(read.operands) != 1)
		value = s.value(read.operands[0])
	}
	end, ended := s.block(from, passed || value == 0, deep+1)
	fault(api.ErrNest, !ended)
	fault(api.ErrOperand, !passed && (end.label != "" || end.operands != nil))
	if end.operation == ".else" {
		end, ended = s.block(from, passed || value != 0, deep+1)
		fault(api.ErrNest, !ended || end.operation == ".else")
		fault(api.ErrOperand, !passed && (end.label != "" || end.operands != nil))
	}
}

func (s *slowText) value(expr string) int {
	value, errno := slowValue(expr, 0, s.names)
	fault(errno, errno != api.OK)
	return value
}

func (s *slowText) other(from *slowLines, read slowLine) {
	macro, called := s.macros[read.operation]
	switch {
	case read.operation == ".macro":
		s.define(from, read)
	case read.operation == ".end":
		fault(api.ErrNest, true)
	case read.operation == ".set":
		s.set(read)
		s.leave(read)
	case called:
		s.call(macro, read)
	case read.label != "" || read.operation != "":
		s.leave(read)
	}
}

func (s *slowText) define(from *slowLines, read slowLine) {
	fault(api.ErrNest, !from.ofAll)
	fault(api.ErrOperand, read.label != "" || len(read.operands) == 0)
	seen := map[string]int{}
	for i, operand := range read.operands {
		fault(api.ErrOperand, !slowIsName(operand))
		if i > 0 {
			seen[operand]++
			fault(api.ErrOperand, seen[operand] > 1)
		}
	}
	name := read.operands[0]
	_, known := s.macros[name]
	fault(api.ErrName, known)
	macro := slowMacro{parameters: read.operands[1:]}
	for {
		fault(api.ErrNest, len(from.rest) == 0)
		line := s.next(from)
		inner := slowRead(line)
		fault(api.ErrNest, inner.operation == ".macro")
		if inner.operation == ".end" {
			fault(api.ErrOperand, inner.label != "" || inner.operands != nil)
			break
		}
		macro.lines = append(macro.lines, strings.Split(line, ";")[0])
	}
	s.macros[name] = macro
}

func (s *slowText) set(read slowLine) {
	fault(api.ErrOperand, read.label != "" || len(read.operands) != 2)
	name := read.operands[0]
	known := slices.ContainsFunc(s.names, func(n api.Name) bool { return n.Name == name })
	fault(api.ErrName, known || !slowIsName(name))
	s.names = append(s.names, api.Name{Name: name, Value: s.value(read.operands[1])})
}

func (s *slowText) call(macro slowMacro, read slowLine) {
	fault(api.ErrNest, s.deep >= api.MaxDeep)
	fault(api.ErrOperand, len(read.operands) != len(macro.parameters))
	fault(api.ErrSize, s.calls >= api.MaxCalls)
	s.calls++
	if read.label != "" {
		s.leave(slowLine{label: read.label})
	}
	byLength := slices.Clone(macro.parameters)
	slices.SortStableFunc(byLength, func(a, b string) int { return cmp.Compare(len(b), len(a)) })
	form := regexp.MustCompile(`\\(` + strings.Join(append(byLength, ""), "|") + `)`)
	fill := func(found string) string {
		fault(api.ErrOperand, found == `\`)
		return read.operands[slices.Index(macro.parameters, found[1:])]
	}
	s.deep++
	s.whole(&slowLines{rest: macro.lines, read: func(line string) string {
		filled := form.ReplaceAllStringFunc(line, fill)
		fault(api.ErrText, len(filled) > api.MaxLine)
		return filled
	}})
	s.deep--
}

func (s *slowText) leave(read slowLine) {
	fault(api.ErrSize, len(s.left) >= api.MaxLines)
	words := []string{read.label + ":", read.operation, strings.Join(read.operands, ",")}
	if read.label == "" {
		words = words[1:]
	}
	line := strings.TrimRight(strings.Join(words, " "), " ")
	s.left = append(s.left, api.Line{Text: line, From: s.number})
}

func checkExpand(t *testing.T, text string) {
	want, wantErrno, wantLine := slowExpand(text)
	got, errno, line := mason.Expand(text)
	if !slices.Equal(got, want) || errno != wantErrno || line != wantLine {
		t.Errorf("Expand(%q) = %v, error %d, line %d; want %v, error %d, line %d", text, got, errno, line, want, wantErrno, wantLine)
	}
}

func TestExpandAgainstReference(t *testing.T) {
	check := func(text string) { checkExpand(t, text) }
	eachText([]string{".if 0\n", ".if 1\n", ".else\n", ".endif\n", "x: .else\n", ".endif 1\n", "nop\n"}, 6, check)
	eachText([]string{".macro m\n", ".macro n,p\n", ".end\n", "m\n", "n 0\n", "l: n 1\n", ".if \\p\n", ".endif\n", "\\p\n"}, 5, check)
	eachText([]string{".set a,1\n", ".set b,a\n", ".set a,0\n", ".if a\n", ".if b\n", ".else\n", ".endif\n", "a:\n"}, 5, check)
	eachText([]string{"a", "r1", ":", " ", ",", ";", "\n", ".set", "1"}, 5, check)
	for _, operand := range []string{"0", "1", ".else", ".endif", ".if", ",", "m", "\\p"} {
		eachText([]string{".if \\p\n", ".if 0\n", ".else \\p\n", ".endif \\p\n", "\\p\n", "\\p .\n", "\\\n"}, 5, func(body string) {
			checkExpand(t, ".macro m,p\n"+body+".end\n.if 1\nm "+operand+"\n.endif")
		})
	}
}

func TestExpandOfChanceTextsAgainstReference(t *testing.T) {
	chance := rand.New(rand.NewPCG(4, 3)) // always the same texts
	pieces := []string{
		".macro m", ".macro n,p", ".macro o,p,pq", ".macro k,a", ".end", ".end", ".end", "m", "n 0", "n 1", "n \\p", "l: o 1,2", "o \\p,\\pq", "k m", "k ,", "\\a", "\\p: x \\pq", "\\a 1",
		".if 0", ".if 1", ".if \\p", ".if s", ".else", ".else", ".endif", ".endif", ".endif", ".endif \\p", ".set s,1", ".set t,s-1", ".set \\p,2", "nop", "x: add r1,r2", "n \\p-1", "; x", "l:",
	}
	for range 50000 {
		var all []string
		for range 1 + chance.IntN(14) {
			all = append(all, pieces[chance.IntN(len(pieces))])
		}
		checkExpand(t, strings.Join(all, "\n"))
	}
}

// Texts in which macros have bodies that fit together, so that more calls come to their end than by chance alone.
func TestExpandOfCallsAgainstReference(t *testing.T) {
	chance := rand.New(rand.NewPCG(7, 8))
	heads := []string{".macro a", ".macro b,p", ".macro c,p,pq"}
	bodies := []string{"a", "b 0", "b \\p", "l\\p: c 1,\\p", "x \\p,\\pq", "\\p", ".if \\p\nx\n.else\ny\n.endif", ".if 0\n\\\n.else\nz\n.endif", "b \\p-1", "", "k: y", ".set n\\p,\\p", "x \\p\\p\\p\\p\\p\\p\\p\\p"}
	calls := []string{"a", "k: a", "b 3", "b 1", "c 0,1", "c ,", "b \\p", "x", ".if n1\nb 2\n.endif", "b .endif", "b abcdefghij", "c 1"}
	some := func(of []string, most int) (all []string) {
		for range chance.IntN(most + 1) {
			all = append(all, of[chance.IntN(len(of))])
		}
		return all
	}
	for range 30000 {
		var all []string
		for _, head := range heads {
			all = append(all, head)
			all = append(all, some(bodies, 4)...)
			all = append(all, ".end")
		}
		all = append(all, some(calls, 6)...)
		checkExpand(t, strings.Join(all, "\n"))
	}
}
