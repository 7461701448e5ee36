package lines

import (
	"strings"

	"mason/api"
)

// Split answers the lines of a text; or else the error, and the number of the first line that may not be (0, if it is the whole text).
func Split(text string) ([]string, api.Errno, int) {
	if len(text) > api.MaxText {
		return nil, api.ErrText, 0
	}
	all := strings.Split(text, "\n")
	for i, line := range all {
		if !mayBe(line) {
			return nil, api.ErrText, i + 1
		}
	}
	return all, api.OK, 0
}

func mayBe(line string) bool {
	for i := range len(line) {
		if line[i] < ' ' || line[i] > '~' {
			return false
		}
	}
	return len(line) <= api.MaxLine
}
