package expression

import "mason/api"

// IsName tells whether all of word is one name.
func IsName(word string) bool {
	if word == "" || len(word) > api.MaxName || isDigit(word[0]) || isRegister(word) {
		return false
	}
	for i := range len(word) {
		if !isNameByte(word[i]) {
			return false
		}
	}
	return true
}

func isRegister(word string) bool {
	return len(word) == 2 && word[0] == 'r' && '0' <= word[1] && word[1] <= '3'
}

func isNameByte(b byte) bool {
	return 'a' <= b && b <= 'z' || 'A' <= b && b <= 'Z' || isDigit(b) || b == '_'
}

func isDigit(b byte) bool {
	return '0' <= b && b <= '9'
}
