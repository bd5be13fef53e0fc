package tests

import (
	"slices"
	"strings"
	"testing"

	"loop.example/macroprocessor/impl"
)

// listsOf returns all lists of at most a number of lines, each one of the given ones.
func listsOf(lines []string, most int) [][]string {
	lists := [][]string{nil}
	longest := lists
	for range most {
		var next [][]string
		for _, list := range longest {
			for _, line := range lines {
				next = append(next, append(slices.Clone(list), line))
			}
		}
		lists = append(lists, next...)
		longest = next
	}
	return lists
}

// joinedText is another way to join lines: a backslash and a line end are left out of the whole text.
func joinedText(list []string) []string {
	if len(list) == 0 {
		return nil
	}
	text := strings.Join(list, "\n")
	return strings.Split(strings.ReplaceAll(text, "\\\n", ""), "\n")
}

// wantJoined checks JoinLines of lines that can be joined.
func wantJoined(t *testing.T, list []string, lines []string, numbers []int) {
	t.Helper()
	gotLines, gotNumbers, ok := impl.JoinLines(list)
	if !ok || !slices.Equal(gotLines, lines) || !slices.Equal(gotNumbers, numbers) {
		t.Errorf("JoinLines(%q) = %q, %v, %v, want %q, %v, true", list, gotLines, gotNumbers, ok, lines, numbers)
	}
}

// wantUnjoined checks JoinLines of lines that cannot be joined.
func wantUnjoined(t *testing.T, list []string) {
	t.Helper()
	lines, numbers, ok := impl.JoinLines(list)
	if ok || len(lines) != 0 || len(numbers) != 0 {
		t.Errorf("JoinLines(%q) = %q, %v, %v, want nothing and false", list, lines, numbers, ok)
	}
}

// manyLines returns a line a number of times.
func manyLines(line string, count int) []string {
	return slices.Repeat([]string{line}, count)
}

func TestLimitsOfLines(t *testing.T) {
	if impl.MaxLine != 200 || impl.MaxLines != 40 {
		t.Errorf("MaxLine = %d, MaxLines = %d", impl.MaxLine, impl.MaxLines)
	}
}

// Promise 1.
func TestJoinLinesOfDocument(t *testing.T) {
	cases := []struct {
		list    []string
		lines   []string
		numbers []int
	}{
		{nil, nil, nil},
		{[]string{}, nil, nil},
		{[]string{""}, []string{""}, []int{1}},
		{[]string{"a", "b"}, []string{"a", "b"}, []int{1, 2}},
		{[]string{"", "", ""}, []string{"", "", ""}, []int{1, 2, 3}},
		{[]string{`a\`, "b"}, []string{"ab"}, []int{1}},
		{[]string{`a \`, " b", "c"}, []string{"a  b", "c"}, []int{1, 3}},
		{[]string{"a", `b\`, "c", "d"}, []string{"a", "bc", "d"}, []int{1, 2, 4}},
		{[]string{`a\`, `b\`, `c\`, "d", "e"}, []string{"abcd", "e"}, []int{1, 5}},
		{[]string{`a\`, "b", `c\`, "d"}, []string{"ab", "cd"}, []int{1, 3}},
		{[]string{`\`, `\`, "x"}, []string{"x"}, []int{1}},
		{[]string{`a\`, ""}, []string{"a"}, []int{1}},
		{[]string{`\`, ""}, []string{""}, []int{1}},
	}
	for _, c := range cases {
		wantJoined(t, c.list, c.lines, c.numbers)
	}
}

// Promise 1: the last line keeps its backslash, whether it is joined with the one before or not.
func TestJoinLinesLastBackslash(t *testing.T) {
	wantJoined(t, []string{`\`}, []string{`\`}, []int{1})
	wantJoined(t, []string{`a\`}, []string{`a\`}, []int{1})
	wantJoined(t, []string{"a", `b\`}, []string{"a", `b\`}, []int{1, 2})
	wantJoined(t, []string{`a\`, `b\`}, []string{`ab\`}, []int{1})
	wantJoined(t, []string{`a\`, `\`}, []string{`a\`}, []int{1})
	wantJoined(t, []string{`a\`, `a\`, `a\`}, []string{`aaa\`}, []int{1})
}

// Promise 1: one backslash goes for each join, and a backslash or a space elsewhere joins nothing.
func TestJoinLinesOneBackslash(t *testing.T) {
	wantJoined(t, []string{`a\\`, "b"}, []string{`a\b`}, []int{1})
	wantJoined(t, []string{`a\\`, "", "b"}, []string{`a\`, "b"}, []int{1, 3})
	wantJoined(t, []string{`\\\`, `\\`}, []string{`\\\\`}, []int{1})
	wantJoined(t, []string{`a\ `, "b"}, []string{`a\ `, "b"}, []int{1, 2})
	wantJoined(t, []string{`\a`, "b"}, []string{`\a`, "b"}, []int{1, 2})
	wantJoined(t, []string{"a", `\`, "b"}, []string{"a", "b"}, []int{1, 2})
}

// Promise 1: joined lines have exactly MaxLine bytes at most.
func TestJoinLinesLength(t *testing.T) {
	x := func(count int) string { return strings.Repeat("x", count) }
	wantJoined(t, []string{x(150) + `\`, x(50)}, []string{x(200)}, []int{1})
	wantUnjoined(t, []string{x(150) + `\`, x(51)})
	wantJoined(t, []string{x(199) + `\`, "y"}, []string{x(199) + "y"}, []int{1})
	wantUnjoined(t, []string{x(199) + `\`, "yy"})
	wantJoined(t, []string{`\`, x(200)}, []string{x(200)}, []int{1})
	wantJoined(t, []string{x(100) + `\`, x(50) + `\`, x(50)}, []string{x(200)}, []int{1})
	wantUnjoined(t, []string{x(100) + `\`, x(50) + `\`, x(51)})
	wantUnjoined(t, []string{x(199) + `\`, x(199) + `\`, ""})
	wantJoined(t, []string{x(199) + `\`}, []string{x(199) + `\`}, []int{1})
	wantJoined(t, []string{`\`, x(199) + `\`}, []string{x(199) + `\`}, []int{1})
	wantUnjoined(t, []string{`z\`, x(199) + `\`})
	wantUnjoined(t, []string{"a", x(150) + `\`, x(51), "b"})
	wantUnjoined(t, []string{`a\`, "b", x(150) + `\`, x(51)})
	wantJoined(t, []string{x(200), x(200)}, []string{x(200), x(200)}, []int{1, 2})
}

// Promise 1: exactly MaxLines lines can be joined, and one more cannot.
func TestJoinLinesMany(t *testing.T) {
	numbers := make([]int, impl.MaxLines)
	for i := range numbers {
		numbers[i] = i + 1
	}
	wantJoined(t, manyLines("a", impl.MaxLines), manyLines("a", impl.MaxLines), numbers)
	wantUnjoined(t, manyLines("a", impl.MaxLines+1))
	wantJoined(t, manyLines(`a\`, impl.MaxLines), []string{strings.Repeat("a", impl.MaxLines) + `\`}, []int{1})
	wantUnjoined(t, manyLines(`a\`, impl.MaxLines+1))
	wantUnjoined(t, manyLines("", impl.MaxLines+1))
}

// Promise 1: an invalid line anywhere lets no line be joined.
func TestJoinLinesInvalid(t *testing.T) {
	long := strings.Repeat("x", impl.MaxLine)
	invalid := []string{"\n", "a\t", "\x7f", "\x1f\\", "\x00", "\x80", "\xff\\", "\u00e9", "\r\\", long + "x", long + `\`}
	for _, line := range invalid {
		wantUnjoined(t, []string{line})
		wantUnjoined(t, []string{line, "a"})
		wantUnjoined(t, []string{`a\`, line})
		wantUnjoined(t, []string{"a", line, "b"})
	}
}

// Promise 1: for all short lists of lines.
func TestJoinLinesKeepsBytes(t *testing.T) {
	for _, list := range listsOf([]string{"", `\`, "a", `b\`, `\\`, `\c `}, 4) {
		lines, numbers, ok := impl.JoinLines(list)
		if !ok || len(lines) != len(numbers) || !slices.Equal(lines, joinedText(list)) {
			t.Fatalf("JoinLines(%q) = %q, %v, %v, want lines %q", list, lines, numbers, ok, joinedText(list))
		}
		removed := len(list) - len(lines)
		if len(strings.Join(lines, "")) != len(strings.Join(list, ""))-removed {
			t.Fatalf("JoinLines(%q) = %q: bytes are missing", list, lines)
		}
		if want := beginnings(list); !slices.Equal(numbers, want) {
			t.Fatalf("JoinLines(%q) has the numbers %v, want %v", list, numbers, want)
		}
		checkAscending(t, numbers)
	}
}

// beginnings returns the numbers of the lines that are not joined with the one before.
func beginnings(list []string) []int {
	var numbers []int
	for i := range list {
		if i == 0 || !strings.HasSuffix(list[i-1], `\`) {
			numbers = append(numbers, i+1)
		}
	}
	return numbers
}

func checkAscending(t *testing.T, numbers []int) {
	t.Helper()
	for i := 1; i < len(numbers); i++ {
		if numbers[i-1] >= numbers[i] {
			t.Fatalf("the numbers %v do not ascend", numbers)
		}
	}
}

// The general rules: results are new, arguments are not written to, and no state is kept.
func TestJoinLinesNewResults(t *testing.T) {
	list := []string{`a\`, "b", "c", "beyond"}
	part := list[:3]
	lines, numbers, ok := impl.JoinLines(part)
	if !ok {
		t.Fatal("not joined")
	}
	for i := range lines {
		lines[i], numbers[i] = "changed", -1
	}
	_ = append(lines, "more")
	if !slices.Equal(list, []string{`a\`, "b", "c", "beyond"}) {
		t.Errorf("the argument is now %q", list)
	}
	wantJoined(t, part, []string{"ab", "c"}, []int{1, 3})
}

// Promise 47.
func TestLineValidBytes(t *testing.T) {
	for value := range 256 {
		b := string([]byte{byte(value)})
		want := 32 <= value && value <= 126
		for _, line := range []string{b, b + "xy", "x" + b + "y", "xy" + b} {
			if impl.LineValid(line) != want {
				t.Errorf("LineValid(%q) = %v, want %v", line, !want, want)
			}
		}
	}
	for _, line := range []string{"\u00e9", "a\u4e16b", "\xc3", "\ufffd"} {
		if impl.LineValid(line) {
			t.Errorf("LineValid(%q) = true", line)
		}
	}
}

// Promise 47.
func TestLineValidLength(t *testing.T) {
	for _, b := range []string{" ", "x", "~", `\`} {
		for _, count := range []int{0, 1, impl.MaxLine - 1, impl.MaxLine} {
			if !impl.LineValid(strings.Repeat(b, count)) {
				t.Errorf("%d of %q are invalid", count, b)
			}
		}
		for _, count := range []int{impl.MaxLine + 1, 2 * impl.MaxLine, 100 * impl.MaxLine} {
			if impl.LineValid(strings.Repeat(b, count)) {
				t.Errorf("%d of %q are valid", count, b)
			}
		}
	}
}

// longestLine returns a valid line of MaxLine bytes with all bytes that a line may have.
func longestLine() string {
	line := make([]byte, impl.MaxLine)
	for i := range line {
		line[i] = byte(32 + i%95)
	}
	return string(line)
}

// Promise 47: with a line end in it, at any place, a line is invalid.
func TestLineValidLineEnd(t *testing.T) {
	line := longestLine()[1:]
	for i := range len(line) + 1 {
		if impl.LineValid(line[:i]+"\n"+line[i:]) || impl.LineValid(line[:i]+"\r"+line[i:]) {
			t.Errorf("a line end at %d is valid", i)
		}
	}
}

// Promise 47: every part of a valid line is valid.
func TestLineValidParts(t *testing.T) {
	line := longestLine()
	for from := range len(line) + 1 {
		for to := from; to <= len(line); to++ {
			if !impl.LineValid(line[from:to]) {
				t.Fatalf("the part %q is invalid", line[from:to])
			}
		}
	}
}

// Promise 48.
func TestLinesValidCount(t *testing.T) {
	for _, line := range []string{"", `a\`, longestLine()} {
		for _, count := range []int{0, 1, impl.MaxLines - 1, impl.MaxLines} {
			if !impl.LinesValid(manyLines(line, count)) {
				t.Errorf("%d lines %q are invalid", count, line)
			}
		}
		for _, count := range []int{impl.MaxLines + 1, 2 * impl.MaxLines} {
			if impl.LinesValid(manyLines(line, count)) {
				t.Errorf("%d lines %q are valid", count, line)
			}
		}
	}
	if !impl.LinesValid(nil) {
		t.Error("no lines are invalid")
	}
}

// Promise 48: with an invalid line, at any place, lines are invalid.
func TestLinesValidOneByOne(t *testing.T) {
	invalid := []string{"\n", "\x1f", "\x7f", "a\tb", "\xff", strings.Repeat("x", impl.MaxLine+1)}
	for _, count := range []int{1, 2, impl.MaxLines} {
		for _, line := range invalid {
			for i := range count {
				list := manyLines("valid", count)
				list[i] = line
				if impl.LinesValid(list) {
					t.Errorf("%d lines with %q at %d are valid", count, line, i)
				}
			}
		}
	}
}

// Promise 48: every part of valid lines is valid, and what is valid has valid lines.
func TestLinesValidParts(t *testing.T) {
	list := manyLines(longestLine(), impl.MaxLines)
	for from := range len(list) + 1 {
		for to := from; to <= len(list); to++ {
			if !impl.LinesValid(list[from:to]) {
				t.Fatalf("the lines from %d to %d are invalid", from, to)
			}
		}
	}
	for _, list := range listsOf([]string{"", "a", "~ ", "\n", "\x7f"}, 3) {
		want := true
		for _, line := range list {
			want = want && impl.LineValid(line)
		}
		if impl.LinesValid(list) != want {
			t.Errorf("LinesValid(%q) = %v, want %v", list, !want, want)
		}
	}
}
