package expression

import "mason/api"

// readTerm reads the term at the start of text; it answers its number and what stands behind it.
func readTerm(text string, at int, names []api.Name) (int, string, api.Errno) {
	number, length, errno := findTerm(text, at, names)
	if errno != api.OK {
		return 0, "", errno
	}
	if number < -api.MaxValue || number > api.MaxValue {
		return 0, "", api.ErrValue
	}
	return number, text[length:], api.OK
}

// findTerm answers a term's number, which may be out of bounds, and how many bytes the term has.
func findTerm(text string, at int, names []api.Name) (int, int, api.Errno) {
	if text == "" {
		return 0, 0, api.ErrOperand
	}
	switch first := text[0]; {
	case isDigit(first):
		number, length := readDigits(text, 10)
		return number, length, api.OK
	case first == '$':
		return findBase16(text)
	case first == '\'':
		return findQuoted(text)
	case first == '.':
		return at, 1, api.OK
	}
	return findName(text, names)
}

func findBase16(text string) (int, int, api.Errno) {
	number, length := readDigits(text[1:], 16)
	if length == 0 {
		return 0, 0, api.ErrOperand
	}
	return number, 1 + length, api.OK
}

func findQuoted(text string) (int, int, api.Errno) {
	if len(text) < 3 || text[1] == '\'' || text[2] != '\'' {
		return 0, 0, api.ErrOperand
	}
	return int(text[1]), 3, api.OK
}

func findName(text string, names []api.Name) (int, int, api.Errno) {
	length := 0
	for length < len(text) && isNameByte(text[length]) {
		length++
	}
	word := text[:length]
	if !IsName(word) {
		return 0, 0, api.ErrOperand
	}
	for _, name := range names {
		if name.Name == word {
			return name.Value, length, api.OK
		}
	}
	return 0, 0, api.ErrUnknown
}

// readDigits reads as many digits as stand there; it answers their number and how many they are.
func readDigits(text string, base int) (int, int) {
	number, length := 0, 0
	for length < len(text) {
		digit := digitValue(text[length])
		if digit >= base {
			break
		}
		// One number out of bounds stands for all of them, so that no row of digits is too long for an int.
		number = min(number*base+digit, api.MaxValue+1)
		length++
	}
	return number, length
}

// digitValue answers 16, which is a digit to no base here, for a byte that is no digit.
func digitValue(b byte) int {
	switch {
	case isDigit(b):
		return int(b - '0')
	case 'a' <= b && b <= 'f':
		return int(b-'a') + 10
	}
	return 16
}
