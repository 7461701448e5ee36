package expression

import "mason/api"

// IsName tells whether all of word is one name.
func IsName(word string) bool {
	if word == "" || len(word) > api.MaxName || isDigit(word[0]) {
		return false
	}
	if _, found := Register(word); found {
		return false
	}
	for i := range len(word) {
		if !isNameByte(word[i]) {
			return false
		}
	}
	return true
}

// Register answers the number of the register that all of word is, and whether it is one.
func Register(word string) (int, bool) {
	if len(word) != 2 || word[0] != 'r' || word[1] < '0' || word[1] > '3' {
		return 0, false
	}
	return int(word[1] - '0'), true
}

func isNameByte(b byte) bool {
	return 'a' <= b && b <= 'z' || 'A' <= b && b <= 'Z' || isDigit(b) || b == '_'
}

func isDigit(b byte) bool {
	return '0' <= b && b <= '9'
}
