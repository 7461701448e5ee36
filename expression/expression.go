// Package expression knows names and reckons expressions.
package expression

import "mason/api"

// Value reckons an expression from the left to the right (P2).
func Value(text string, at int, names []api.Name) (int, api.Errno) {
	rest, sign := text, byte('+')
	var sum, number int
	var errno api.Errno
	if rest != "" && rest[0] == '-' {
		// The sum is still 0, so that taking the first term from it turns that term's sign.
		goto aSign
	}

aTerm:
	number, rest, errno = readTerm(rest, at, names)
	if errno != api.OK {
		return 0, errno
	}
	sum, errno = reckon(sum, sign, number)
	if errno != api.OK {
		return 0, errno
	}
	if rest == "" {
		return sum, api.OK
	}

aSign:
	sign, rest = rest[0], rest[1:]
	if sign != '+' && sign != '-' && sign != '*' {
		return 0, api.ErrOperand
	}
	goto aTerm
}

// reckon takes numbers that are in bounds. It works in 64 bits, because the product of two of them is wider than 32.
func reckon(sum int, sign byte, number int) (int, api.Errno) {
	wide := int64(sum)
	switch sign {
	case '+':
		wide += int64(number)
	case '-':
		wide -= int64(number)
	case '*':
		wide *= int64(number)
	}
	if wide < -api.MaxValue || wide > api.MaxValue {
		return 0, api.ErrValue
	}
	return int(wide), api.OK
}
