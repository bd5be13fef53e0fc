package tests

import (
	"regexp"
	"slices"
	"strings"
	"testing"

	"loop.example/macroprocessor/impl"
)

// signLines has lines for each sign: ( for those that begin a level, the comma for elif, ; for else, ) for endif, and the point for those that change no levels.
var signLines = map[rune][]string{
	'(': {"#if 1", "#if 0", "#ifdef a", "#ifndef a", "# if +", "  #  if f(1) == 2", "#if(1)", "#if 1 / 0 // x", "#ifdef _", "/**/ #ifndef defined /* #endif */", "#if defined", `#if "a"`, "#if #endif", "#if\"else\"", "#if a == 1 && !defined(b)", "#if " + strings.Repeat("1 ", 58), "#ifndef abcdefghijkl"},
	',': {"#elif 1", "#elif 0", "# elif )", "#elif(1)", "  #elif defined a", "#elif 1 / 0", "/* #endif */#elif a", "#elif \"a\" // x", "#elif # if 1", "#elif a == 1 && !defined(b)", "#elif " + strings.Repeat("1 ", 58)},
	';': {"#else", "# else", "   #   else   ", "#else// x", "#/**/else/**/", "/* #if 1 */ #else"},
	')': {"#endif", "# endif", " #endif ", "#endif // a", "#endif/**/", "/* x */#/**/endif /* #if 1 */ // y"},
	'.': append(append(slices.Clone(plainLines), idleLines...), unreadLines...),
}

// plainLines are lines that are no directives.
var plainLines = []string{"", "   ", "a", "f(1) + 2", "if 1", "else", "endif", "##if 1", "## else", "###endif", "a #endif", "(#if 1)", `"#else"`, `"#if" 1`, "// #endif", "/* #else */", "/* #if 1 */ a", "1 // #elif 1", "! #ifdef a", "+", "*/ #endif"}

// idleLines are directives that change no levels.
var idleLines = []string{"#define a 1", "#define f(x) x", "#define if 1", "#define endif", "#undef a", "#undef else", `#include "a"`, `#include "#endif"`, "#error", "#error x", "#error #else", "# error if 1 /* x */"}

// unreadLines are lines that cannot be read as directives.
var unreadLines = []string{"#", "# ", "#if", " # if // 1", "#if /* 1 */", "#elif", "#elif/**/", "#ifdef", "#ifdef 1", "#ifdef a b", "#ifdef (a)", `#ifdef "a"`, "#ifdef abcdefghijklm", "#ifndef", "#ifndef +", "#ifndef a 1", "#ifa", "#if1", "#else x", "#else 1", "#else #", "#elsea", "#else;", "#endif x", "#endif 1", "#endif endif", "#endif_", "#endif,", "#other", "#If 1", "#ELSE", "#Endif", "#elseif 1", "#elifdef a", "# # if 1", "#1", `#"if" 1`, "#define", "#define 1", "#undef", "#undef a b", "#include a", "#include", "#if @", "#if 'a'", "#else @", "#endif $", "#endif\\", "#else \\", "#if 1\\", "#if \"a", "#endif \"", "#else /*", "#if 1 /* x", "/* #endif", "@", "a\\", `"a`, "#error @", "#error it's", "#if a\\b", "#if " + strings.Repeat("1 ", 60), "#elif " + strings.Repeat("a", 13)}

// linesOfSigns returns a line for each sign, which is another one for another turn.
func linesOfSigns(signs string, turn int) []string {
	var lines []string
	for i, sign := range signs {
		of := signLines[sign]
		lines = append(lines, of[(turn+i*5)%len(of)])
	}
	return lines
}

// wantLevels checks CheckLevels and DeepestLevel.
func wantLevels(t *testing.T, lines []string, number int, deepest int) {
	t.Helper()
	if got := impl.CheckLevels(lines); got != number {
		t.Errorf("CheckLevels(%q) = %d, want %d", lines, got, number)
	}
	if got := impl.DeepestLevel(lines); got != deepest {
		t.Errorf("DeepestLevel(%q) = %d, want %d", lines, got, deepest)
	}
}

// wantBalanced checks lines that are balanced and have as many levels at once as told, and what promises 72 and 73 say of them.
func wantBalanced(t *testing.T, lines []string, deepest int) {
	t.Helper()
	wantLevels(t, lines, 0, deepest)
	for _, begin := range []string{"#if 1", "#if 0", "#ifdef a", "#ifndef a"} {
		checkWithin(t, []string{begin}, lines, []string{"#endif"}, deepest)
	}
	checkWithin(t, []string{"#if +"}, lines, []string{"#elif 1", "#else", "#endif // x"}, deepest)
	checkWithin(t, []string{"#ifdef a", "b", "#elif 0", "#else"}, lines, []string{"# endif"}, deepest)
	checkTwice(t, lines, deepest)
}

// checkWithin checks balanced lines within the directives of one more level: they are balanced, and have one more level, if there is room.
func checkWithin(t *testing.T, before []string, lines []string, behind []string, deepest int) {
	t.Helper()
	within := slices.Concat(before, lines, behind)
	first, last, levels := 0, 0, deepest+1
	switch {
	case len(within) > impl.MaxLines:
		first, last, levels = -1, -1, -1
	case deepest == impl.MaxLevels:
		first, last, levels = len(before)+impl.MaxLevels, len(before)+len(lines)-impl.MaxLevels, -1
	}
	if got := impl.CheckLevels(within); got < first || got > last {
		t.Errorf("CheckLevels(%q) = %d, want %d to %d", within, got, first, last)
	}
	if got := impl.DeepestLevel(within); got != levels {
		t.Errorf("DeepestLevel(%q) = %d, want %d", within, got, levels)
	}
}

// checkTwice checks balanced lines twice: they are balanced, and have not more levels, if there is room.
func checkTwice(t *testing.T, lines []string, deepest int) {
	t.Helper()
	twice := slices.Concat(lines, lines)
	number := 0
	if len(twice) > impl.MaxLines {
		number, deepest = -1, -1
	}
	wantLevels(t, twice, number, deepest)
}

// wantUnbalanced checks lines that are not balanced, or not valid.
func wantUnbalanced(t *testing.T, lines []string, number int) {
	t.Helper()
	wantLevels(t, lines, number, -1)
}

// wantSigns checks the lines of balanced signs, of which there are several.
func wantSigns(t *testing.T, deepest int, signs ...string) {
	t.Helper()
	for _, some := range signs {
		for turn := range 12 {
			wantBalanced(t, linesOfSigns(some, turn), deepest)
		}
	}
}

// wantNoSigns checks the lines of signs that are not balanced.
func wantNoSigns(t *testing.T, number int, signs ...string) {
	t.Helper()
	for _, some := range signs {
		for turn := range 12 {
			wantUnbalanced(t, linesOfSigns(some, turn), number)
		}
	}
}

// innermost is a level that has no other one in it.
var innermost = regexp.MustCompile(`\(\.*(,\.*)*(;\.*)?\)`)

// passesOf takes the innermost levels away until there are none, and returns how often it did so, and whether no signs of levels are left.
func passesOf(signs string) (int, bool) {
	passes := 0
	for innermost.MatchString(signs) {
		signs = innermost.ReplaceAllString(signs, ".")
		passes++
	}
	return passes, strings.Trim(signs, ".") == ""
}

// canBeEnded tells whether signs are balanced with enough ends behind them, and have no more than MaxLevels levels at once.
func canBeEnded(signs string) bool {
	missing := strings.Count(signs, "(") - strings.Count(signs, ")")
	passes, ok := passesOf(signs + strings.Repeat(")", max(missing, 0)))
	return ok && passes <= impl.MaxLevels
}

// balanceAnotherWay returns in another way what CheckLevels and DeepestLevel return for the lines of signs.
func balanceAnotherWay(signs string) (int, int) {
	for number := range len(signs) {
		if !canBeEnded(signs[:number+1]) {
			return number + 1, -1
		}
	}
	if passes, ok := passesOf(signs); ok {
		return 0, passes
	}
	return len(signs) + 1, -1
}

// checkSigns compares the lines of signs with the other way, and returns the number that CheckLevels returns.
func checkSigns(t *testing.T, signs string, turn int) int {
	t.Helper()
	lines := linesOfSigns(signs, turn)
	number, deepest := balanceAnotherWay(signs)
	if number == 0 {
		wantBalanced(t, lines, deepest)
	} else {
		wantUnbalanced(t, lines, number)
	}
	if t.Failed() {
		t.FailNow()
	}
	return number
}

// Every line of the signs is what its sign tells.
func TestBalanceOfSigns(t *testing.T) {
	for _, line := range signLines['('] {
		wantBalanced(t, []string{line, "#endif"}, 1)
		wantUnbalanced(t, []string{line}, 2)
	}
	for _, line := range signLines[','] {
		wantBalanced(t, []string{"#if 1", line, line, "#else", "#endif"}, 1)
		wantUnbalanced(t, []string{line}, 1)
		wantUnbalanced(t, []string{"#if 1", "#else", line, "#endif"}, 3)
	}
	for _, line := range signLines[';'] {
		wantBalanced(t, []string{"#if 1", line, "#endif"}, 1)
		wantUnbalanced(t, []string{line}, 1)
		wantUnbalanced(t, []string{"#if 1", line, line, "#endif"}, 3)
	}
	for _, line := range signLines[')'] {
		wantBalanced(t, []string{"#if 1", line}, 1)
		wantUnbalanced(t, []string{line}, 1)
	}
	for _, line := range signLines['.'] {
		wantBalanced(t, []string{line}, 0)
		wantBalanced(t, []string{line, "#if 1", line, "#elif 1", line, "#else", line, "#endif", line}, 1)
		wantUnbalanced(t, []string{line, "#if 1", line}, 4)
		wantUnbalanced(t, []string{line, "#endif", line}, 2)
		wantUnbalanced(t, []string{"#if 0", line, "#else", line, "#else", "#endif"}, 5)
	}
}

// Lines that are balanced, with the levels that they have at once at most.
func TestBalancedOrdinary(t *testing.T) {
	wantSigns(t, 0, "", ".", "..", ".....")
	wantSigns(t, 1, "()", "(.)", ".().", "(,)", "(;)", "(,;)", "(,,,,;)", "(.,.;.)", "()()", "(.).(;)", "()()()()()()", ".(,).(,;).")
	wantSigns(t, 2, "(())", "(()())", "()(())", "(())()", "(();)", "(;())", "(,();)", "((;);)", "((,),(,);(,))", "(()())(())", "(.(.).)", "((;),(;);(;))")
	wantSigns(t, 3, "((()))", "(()(()))", "((())())", "()(())((()))", "((()))(())()", "(;(,(;),))", "((.),(;(.));.)", "(()((;)());(()))")
	wantSigns(t, 5, "(((((.)))))", "(((()))(()(())((()))))")
	wantSigns(t, 8, "(((((((())))))))", "((((((((.;.).,.).).).).).).)", "()(((((((()))))))())(())")
	wantBalanced(t, nil, 0)
	wantBalanced(t, []string{}, 0)
	wantBalanced(t, []string{"#if 1", "#ifdef a", "#endif", "#endif", "#if 0", "#endif"}, 2)
	wantBalanced(t, []string{"#ifndef a", "#define a 1", "#if a == 1", "a", "#else", "b", "#endif", "#endif"}, 2)
}

// Levels that are not ended: the number is one more than that of the lines, whichever level it is, and wherever it begins.
func TestCheckLevelsNotEnded(t *testing.T) {
	for _, signs := range []string{"(", "(.", ".(", "(...", "(,", "(;", "(,;", "()(", "(()", "(().", "((", "(((", "((((((((", "(()(", "(();", "(;()", "((;)", "(,(,)", "...(...", "(;.(;.", "((((((()))))))(", "(((((((())))))))(.", "(()()()", "()()(()()"} {
		wantNoSigns(t, len(signs)+1, signs)
	}
	for count := 1; count <= impl.MaxLevels; count++ {
		for ended := range count {
			signs := strings.Repeat("(", count) + strings.Repeat(")", ended)
			wantNoSigns(t, count+ended+1, signs)
		}
	}
	// MaxLines lines of which one begins a level, so that there is no line with that number.
	for at := range impl.MaxLines {
		signs := strings.Repeat(".", at) + "(" + strings.Repeat(".", impl.MaxLines-1-at)
		wantUnbalanced(t, linesOfSigns(signs, at), impl.MaxLines+1)
	}
}

// Directives without a level: the number is that of the first one, whatever is behind it.
func TestCheckLevelsWithoutLevel(t *testing.T) {
	for _, sign := range []string{",", ";", ")"} {
		for _, before := range []string{"", ".", "....", "()", "(;)", "().", "(.(,;)).", "()()", "(((((((())))))))"} {
			for _, behind := range []string{"", ".", ")", "(", "()", ";", ",", "))", "(;)", "(;;)", "((((((((("} {
				wantNoSigns(t, len(before)+1, before+sign+behind)
			}
		}
	}
	wantNoSigns(t, 3, "())", "())(", "()))", "(),", "();")
	wantNoSigns(t, 5, "(()))", "(;.))", "(()),", "(());")
	last := strings.Repeat(".", impl.MaxLines-1)
	for _, sign := range []string{",", ";", ")"} {
		wantNoSigns(t, impl.MaxLines, last+sign)
	}
}

// Parts that come too late: the number is that of the first one, also if levels are not ended behind it.
func TestCheckLevelsTooLate(t *testing.T) {
	for _, late := range []string{",", ";"} {
		for _, before := range []string{"(;", "(.;.", "(,;", "(,,.;", "()(;", "((;", "((,;", "(;(;", "(;()", "(;(;)", "(;(,)", "((;);", "((;),;", "(,;(,;)", "(((((((;", "(((((((;(;)", ".(;."} {
			for _, behind := range []string{"", ".", ")", "))", ";", ",", ")))))))))", "(", ";)", "(;,)"} {
				wantNoSigns(t, len(before)+1, before+late+behind)
			}
		}
	}
	// An inner level may have its own else behind the outer one's, and many elifs before it.
	wantSigns(t, 2, "(;(;))", "(;(,,;))", "((;)(;);)", "((;);(;))", "((;),(;);(;)(;))")
}

// MaxLevels levels, and one more: the number is that of the line that begins it.
func TestBalanceManyLevels(t *testing.T) {
	full := strings.Repeat("(", impl.MaxLevels)
	ends := strings.Repeat(")", impl.MaxLevels)
	wantSigns(t, impl.MaxLevels, full+ends, full+"."+ends, full+",;"+ends, full+";"+strings.ReplaceAll(ends, ")", "),")[:2*impl.MaxLevels-1], full+")()()"+ends[1:], full+ends+"()", "(())"+full+ends)
	wantSigns(t, impl.MaxLevels-1, full[1:]+ends[1:], full[1:]+";"+ends[1:])
	wantNoSigns(t, impl.MaxLevels+1, full, full+"(", full+"()"+ends, full+"("+ends, full+"(("+ends+"))", full+"(;;", full+"(.")
	wantNoSigns(t, impl.MaxLevels+2, full+".(", full+".()"+ends, full+";()"+ends, full+",(,)"+ends, "."+full+"()"+ends)
	wantNoSigns(t, impl.MaxLevels+3, full+")((", full+")(()"+ends, "()"+full+"()"+ends)
	wantNoSigns(t, impl.MaxLevels+4, full+")(.(", full+",.;()"+ends)
	wantNoSigns(t, impl.MaxLevels+5, full+")()((")
	// Levels one after the other are not at once.
	wantSigns(t, 1, strings.Repeat("()", impl.MaxLines/2))
	wantSigns(t, 2, strings.Repeat("(())", impl.MaxLines/4), "("+strings.Repeat("()", impl.MaxLines/2-1)+")")
	wantSigns(t, 4, strings.Repeat("(((())))", impl.MaxLines/8))
	wantSigns(t, impl.MaxLevels, full+ends+full+ends, full+ends+full+ends+"(((())))")
	// For every kind that begins a level.
	for _, begin := range signLines['('] {
		wantBalanced(t, append(manyLines(begin, impl.MaxLevels), manyLines("#endif", impl.MaxLevels)...), impl.MaxLevels)
		wantUnbalanced(t, append(manyLines(begin, impl.MaxLevels+1), manyLines("#endif", impl.MaxLevels+1)...), impl.MaxLevels+1)
		wantUnbalanced(t, append(manyLines("#if 1", impl.MaxLevels), begin), impl.MaxLevels+1)
	}
}

// Lines within levels that are not taken count as all others, whatever their conditions are, and no condition is looked at.
func TestBalanceConditions(t *testing.T) {
	for _, condition := range []string{"1", "0", "a", "defined a", "!1", "+", ")", "1 +", "1 / 0", "1000001", `"a"`, "f(", "defined", "# else", "1 2", "a ## b"} {
		begin, part := "#if "+condition, "#elif "+condition
		wantBalanced(t, []string{begin, part, "#else", "#endif"}, 1)
		wantBalanced(t, []string{begin, begin, part, "#endif", part, begin, "#endif", "#else", begin, "#else", "#endif", "#endif"}, 2)
		wantUnbalanced(t, []string{begin, "#else", part, "#endif"}, 3)
		wantUnbalanced(t, []string{begin, "#endif", part}, 3)
		wantUnbalanced(t, []string{begin, part}, 3)
	}
	for _, outer := range []string{"#if 0", "#if 1", "#ifdef a", "#ifndef a", "#if 1 / 0"} {
		wantBalanced(t, []string{outer, "#if 1", "#else", "#endif", "#else", "#if 0", "#else", "#endif", "#endif"}, 2)
		wantUnbalanced(t, []string{outer, "#if 1", "#else", "#else", "#endif", "#endif"}, 4)
		wantUnbalanced(t, []string{outer, "#if 1", "#else", "#elif 1", "#endif", "#endif"}, 4)
		wantUnbalanced(t, []string{outer, "#if 1", "#endif"}, 4)
		wantUnbalanced(t, []string{outer, "#endif", "#endif"}, 3)
		wantUnbalanced(t, []string{outer, "#else", "#if 0", "#endif", "#else", "#endif"}, 5)
		wantUnbalanced(t, append([]string{outer}, append(manyLines("#if 1", impl.MaxLevels), manyLines("#endif", impl.MaxLevels+1)...)...), impl.MaxLevels+1)
	}
	// A macro that a line defines, or a name that none has, does not matter, and neither does a line that tells to stop.
	wantBalanced(t, []string{"#define a 1", "#ifdef a", "#undef a", "#ifdef a", "#error", "#endif", "#endif"}, 2)
	wantUnbalanced(t, []string{"#error", "#endif"}, 2)
	wantUnbalanced(t, []string{`#include "a"`, "#if 1", `#include "a"`}, 4)
	wantUnbalanced(t, []string{"#define else #endif", "#if 1", "else"}, 4)
}

// Lines are read one by one: they are not joined, and no comment or text goes beyond the end of its line.
func TestBalanceLineByLine(t *testing.T) {
	wantUnbalanced(t, []string{`#if 1 \`, "#endif"}, 2)
	wantUnbalanced(t, []string{"#if 1", `#endif \`, ""}, 4)
	wantUnbalanced(t, []string{"#if 1", "#endif // \\", "#endif"}, 3)
	wantBalanced(t, []string{`#if \`, "1"}, 0)
	wantBalanced(t, []string{"#", "if 1"}, 0)
	wantBalanced(t, []string{`a \`, "#if 1", "#endif"}, 1)
	wantUnbalanced(t, []string{"/*", "#endif", "*/"}, 2)
	wantUnbalanced(t, []string{"#if 1", "/*", "#endif */"}, 4)
	wantUnbalanced(t, []string{"/*", "#if 1", "*/"}, 4)
	wantBalanced(t, []string{"#if 1 /* x", "*/ #endif"}, 0)
	wantUnbalanced(t, []string{`a "b`, "#else", `c"`}, 2)
	wantUnbalanced(t, []string{`#if "a`, "#endif", `"`}, 2)
}

// Lines with more bytes than MaxLine, or other bytes, are invalid at any place, and so are more than MaxLines, whatever else is there.
func TestBalanceInvalidLines(t *testing.T) {
	long := strings.Repeat(" ", impl.MaxLine-6)
	invalid := []string{"\n", "#if 1\n", "\t#endif", "#else\r", "#endif\x00", "\x7f", "\xff", "\u00e9", "// \u00e9", "/* \n */", "#endif" + long + " ", long + "#endif//", strings.Repeat("a", impl.MaxLine+1), strings.Repeat("/", 1000)}
	for _, signs := range []string{"", ".", "()", "(;)", "(", ")", ";", ",", ".)", "(;;)", "((.))", strings.Repeat("(", impl.MaxLevels+1), strings.Repeat(".", impl.MaxLines-1), strings.Repeat(".", impl.MaxLines-2) + ")"} {
		for turn, line := range invalid {
			lines := linesOfSigns(signs, turn)
			for at := range len(lines) + 1 {
				wantUnbalanced(t, slices.Insert(slices.Clone(lines), at, line), -1)
			}
		}
	}
	// Lines of MaxLine bytes are valid.
	for _, end := range []string{"#endif" + long, long + "#endif", "#endif//" + long[2:], "#" + long + "endif"} {
		wantBalanced(t, []string{"#if" + long + "(1)", "#else /*" + long[4:] + "*/", end}, 1)
		wantUnbalanced(t, []string{"#if" + long + "(1)", end + " "}, -1)
	}
	for _, signs := range []string{".", "()", "(", ")", ";", "(;)"} {
		for _, count := range []int{impl.MaxLines + 1, impl.MaxLines + 2, 2 * impl.MaxLines, 1000} {
			wantUnbalanced(t, linesOfSigns(strings.Repeat(signs, count), count)[:count], -1)
		}
	}
	wantUnbalanced(t, make([]string, impl.MaxLines+1), -1)
	wantBalanced(t, make([]string, impl.MaxLines), 0)
}

// Promise 72: with balanced lines in #if and #endif the lines are balanced as long as there is room for lines and levels.
func TestBalanceRoom(t *testing.T) {
	for signs, number := range map[string]int{"": 9, ".": 9, "()": 9, "(;)": 9, "(.)()": 9, "((;),)": 9, "(.(,;))": 10, "()(;.(.))": 13} {
		lines := linesOfSigns(signs, len(signs))
		_, deepest := balanceAnotherWay(signs)
		for ; deepest <= impl.MaxLevels; deepest++ {
			wantBalanced(t, lines, deepest)
			lines = slices.Concat([]string{"#if 1"}, lines, []string{"#endif"})
		}
		wantUnbalanced(t, lines, number)
	}
	for count := impl.MaxLines - 4; count <= impl.MaxLines+1; count++ {
		lines := slices.Concat([]string{"#if 1"}, manyLines("a", count-2), []string{"#endif"})
		if count > impl.MaxLines {
			wantUnbalanced(t, lines, -1)
		} else {
			wantBalanced(t, lines, 1)
		}
	}
}

// Promise 73: balanced lines twice have not more levels, as long as there is room for lines, and lines one after the other have as many as the deeper ones.
func TestBalanceTwice(t *testing.T) {
	some := []string{"", ".", "()", "(;)", "(())", "(.(,);)", "((()))", "((((((((.))))))))"}
	for _, first := range some {
		for _, second := range some {
			_, deepest := balanceAnotherWay(first)
			_, other := balanceAnotherWay(second)
			wantSigns(t, max(deepest, other), first+second, first+"."+second)
		}
	}
}

// Promises 72 and 73: all short lists of lines of all signs.
func TestBalanceShortLists(t *testing.T) {
	numbers := make([]int, 8)
	for turn, list := range listsOf([]string{"(", ",", ";", ")", "."}, 6) {
		numbers[checkSigns(t, strings.Join(list, ""), turn)]++
	}
	if slices.Min(numbers) < 100 {
		t.Errorf("the numbers are as often as %v", numbers)
	}
}

// Promises 72 and 73: longer lists of lines that are chosen in a fixed order, where levels are often deep.
func TestBalanceAnotherWay(t *testing.T) {
	c := choices{seed: 11}
	deepest := make([]int, impl.MaxLevels+1)
	wrong := make([]int, 3)
	for turn := range 4000 {
		signs := c.signs()
		number := checkSigns(t, signs, turn)
		switch {
		case number == 0:
			deepest[impl.DeepestLevel(linesOfSigns(signs, turn))]++
		case number > len(signs):
			wrong[0]++
		default:
			wrong[1+oneOf(signs[number-1] == '(')]++
		}
	}
	if slices.Min(deepest) < 20 || slices.Min(wrong) < 100 {
		t.Errorf("the deepest levels are as often as %v, and lines are not balanced as often as %v", deepest, wrong)
	}
}

// signs returns at most MaxLines signs, about half of which are balanced, unless they have too many levels.
func (c *choices) signs() string {
	signs, at := "", 0
	for range c.below(14) {
		group := []string{"()", "()", "()", "(;)", "(,)", "(,;)", ".", "(.)"}[c.below(8)]
		if len(signs)+len(group) >= impl.MaxLines {
			break
		}
		signs = signs[:at] + group + signs[at:]
		// Most times the next one is in this one, so that levels are deep.
		at++
		if c.below(4) == 0 {
			at = c.below(len(signs) + 1)
		}
	}
	if c.below(2) == 0 {
		at = c.below(len(signs) + 1)
		signs = signs[:at] + string("(,;)"[c.below(4)]) + signs[at:]
	}
	return signs
}

// The general rules: lines stay as they are, those in the spare capacity, too, and no state is kept.
func TestBalanceKeepsArguments(t *testing.T) {
	for _, signs := range []string{"", ".", "()", "((;))", "(", "(;,)", ")", ".(", "((((((((("} {
		lines := linesOfSigns(signs, 3)
		whole := append(slices.Clone(lines), "#endif", "#if 1", "#else")
		given := slices.Clone(whole)
		number, deepest := balanceAnotherWay(signs)
		for range 3 {
			if got := impl.CheckLevels(given[:len(lines)]); got != number {
				t.Errorf("CheckLevels(%q) = %d, want %d", lines, got, number)
			}
			wantUnbalanced(t, []string{"#if 1", "#if 1"}, 3)
			if got := impl.DeepestLevel(given[:len(lines)]); got != deepest {
				t.Errorf("DeepestLevel(%q) = %d, want %d", lines, got, deepest)
			}
			wantUnbalanced(t, []string{"#if 1", "\n"}, -1)
			wantBalanced(t, []string{"#if 1", "#if 1", "#endif", "#endif"}, 2)
			if !slices.Equal(given, whole) {
				t.Fatalf("the lines %q are %q now", whole, given)
			}
		}
	}
}
