package impl

import "strings"

// The limits of lines.
const (
	MaxLine  = 200
	MaxLines = 40
)

// LineValid reports whether a line has at most MaxLine bytes, each in 32..126.
func LineValid(s string) bool {
	if len(s) > MaxLine {
		return false
	}
	for i := range len(s) {
		if s[i] < 32 || s[i] > 126 {
			return false
		}
	}
	return true
}

// LinesValid reports whether there are at most MaxLines lines, all of them valid (LineValid).
func LinesValid(list []string) bool {
	if len(list) > MaxLines {
		return false
	}
	for _, line := range list {
		if !LineValid(line) {
			return false
		}
	}
	return true
}

// JoinLines returns valid lines (LinesValid) joined, and for every joined line the number of the line, from 1 on, that it begins with, and true: every line that has a backslash at its end, but for the last line, is joined with the next one, without that backslash. It returns nil, nil and false if a joined line is longer than MaxLine, and for other lines.
func JoinLines(list []string) ([]string, []int, bool) {
	if !LinesValid(list) {
		return nil, nil, false
	}
	var joined []string
	var numbers []int
	// Whether a line goes on is read from the given line: a joined one may end with a backslash that joins nothing.
	goesOn := false
	for i, line := range list {
		if !goesOn {
			joined = append(joined, "")
			numbers = append(numbers, i+1)
		}
		goesOn = i < len(list)-1 && strings.HasSuffix(line, `\`)
		if goesOn {
			line = line[:len(line)-1]
		}
		last := len(joined) - 1
		joined[last] += line
		if len(joined[last]) > MaxLine {
			return nil, nil, false
		}
	}
	return joined, numbers, true
}
