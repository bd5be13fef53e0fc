package tests

import (
	"math"
	"math/big"
	"reflect"
	"regexp"
	"slices"
	"strconv"
	"strings"
	"testing"

	"loop.example/macroprocessor/impl"
)

// marksByStrength are the marks between values, from the weakest to the strongest, those of the same strength in one row.
var marksByStrength = [][]string{{"||"}, {"&&"}, {"==", "!="}, {"<", ">", "<=", ">="}, {"+", "-"}, {"*", "/", "%"}}

// marksOfValues returns all marks between values.
func marksOfValues() []string {
	return slices.Concat(marksByStrength...)
}

// strengthOfMark returns the row of a mark between values, from 1 on, and 0 for all else.
func strengthOfMark(mark string) int {
	return 1 + slices.IndexFunc(marksByStrength, func(row []string) bool { return slices.Contains(row, mark) })
}

// someValues returns small values, and those at and near the ends of their range.
func someValues() []int {
	var values []int
	for n := range 13 {
		values = append(values, n, -n)
	}
	for _, n := range []int{100, 999, 1000, 1001, 333333, 500000, 500001, 999999, 1000000} {
		values = append(values, n, -n)
	}
	return values
}

// wantApplied checks ApplyMark.
func wantApplied(t *testing.T, mark string, a int, b int, want int, wantFault int) {
	t.Helper()
	if got, fault := impl.ApplyMark(mark, a, b); got != want || fault != wantFault {
		t.Errorf("ApplyMark(%q, %d, %d) = %d, %d, want %d, %d", mark, a, b, got, fault, want, wantFault)
	}
}

// wantNumber checks NumberOf.
func wantNumber(t *testing.T, s string, want int) {
	t.Helper()
	if got := impl.NumberOf(s); got != want {
		t.Errorf("NumberOf(%q) = %d, want %d", s, got, want)
	}
}

// wantValueOf checks ValueOf of tokens.
func wantValueOf(t *testing.T, list []impl.Token, want int, wantFault int) {
	t.Helper()
	if got, fault := impl.ValueOf(list); got != want || fault != wantFault {
		t.Errorf("ValueOf(%v) = %d, %d, want %d, %d", list, got, fault, want, wantFault)
	}
}

// wantValues checks ValueOf of lines that have values, and what promise 9 says of them.
func wantValues(t *testing.T, values map[string]int) {
	t.Helper()
	for line, want := range values {
		got, fault := impl.ValueOf(tokensOf(t, line))
		if got != want || fault != impl.ValueGood {
			t.Errorf("the value of %q is %d, %d, want %d, %d", line, got, fault, want, impl.ValueGood)
		}
		checkInParentheses(t, tokensOf(t, line))
	}
}

// wantNoValues checks ValueOf of lines that have the same fault.
func wantNoValues(t *testing.T, wantFault int, lines ...string) {
	t.Helper()
	for _, line := range lines {
		if got, fault := impl.ValueOf(tokensOf(t, line)); got != 0 || fault != wantFault {
			t.Errorf("the value of %q is %d, %d, want 0, %d", line, got, fault, wantFault)
		}
	}
}

// inParentheses returns tokens with marks before them, in parentheses.
func inParentheses(list []impl.Token, before ...string) []impl.Token {
	var with []impl.Token
	for _, mark := range before {
		with = append(with, beside(aMark, mark))
	}
	with = append(with, beside(aMark, "("))
	return append(append(with, list...), beside(aMark, ")"))
}

// checkInParentheses checks what promise 9 says of tokens that have a value, or are so and have the fault of ApplyMark.
func checkInParentheses(t *testing.T, list []impl.Token) {
	t.Helper()
	if len(list)+3 > impl.MaxTokens {
		return
	}
	value, fault := impl.ValueOf(list)
	wantValueOf(t, inParentheses(list), value, fault)
	if fault != impl.ValueGood {
		wantValueOf(t, inParentheses(list, "!"), 0, fault)
		return
	}
	wantValueOf(t, inParentheses(list, "!"), oneOf(value == 0), fault)
	wantValueOf(t, inParentheses(list, "-"), -value, fault)
}

// oneOf returns 1 for what holds, and else 0.
func oneOf(holds bool) int {
	if holds {
		return 1
	}
	return 0
}

// appliedAnotherWay is another way to reckon with two values in range: with numbers that may be of any size.
func appliedAnotherWay(mark string, a int, b int) (int, int) {
	x, y, z := big.NewInt(int64(a)), big.NewInt(int64(b)), new(big.Int)
	switch mark {
	case "+":
		z.Add(x, y)
	case "-":
		z.Sub(x, y)
	case "*":
		z.Mul(x, y)
	case "/", "%":
		if y.Sign() == 0 {
			return 0, impl.ValueZero
		}
		// The quotient of the values without their signs is rounded down, which is towards 0.
		rest := new(big.Int)
		z.DivMod(new(big.Int).Abs(x), new(big.Int).Abs(y), rest)
		if x.Sign()*y.Sign() < 0 {
			z.Neg(z)
		}
		if mark == "%" {
			z.Mul(rest, big.NewInt(int64(x.Sign())))
		}
	case "&&":
		z.SetInt64(int64(oneOf(x.Sign()*y.Sign() != 0)))
	case "||":
		z.SetInt64(int64(oneOf(x.BitLen()+y.BitLen() > 0)))
	default:
		holds := map[string][]int{"==": {0}, "!=": {-1, 1}, "<": {-1}, ">": {1}, "<=": {-1, 0}, ">=": {1, 0}}
		z.SetInt64(int64(oneOf(slices.Contains(holds[mark], x.Cmp(y)))))
	}
	if z.CmpAbs(big.NewInt(impl.MaxValue)) > 0 {
		return 0, impl.ValueRange
	}
	return int(z.Int64()), impl.ValueGood
}

func TestConstantsOfValues(t *testing.T) {
	got := []int{impl.ValueGood, impl.ValueSyntax, impl.ValueZero, impl.ValueRange, impl.MaxValue}
	if want := []int{0, 1, 2, 3, 1000000}; !slices.Equal(got, want) {
		t.Errorf("the constants are %v, want %v", got, want)
	}
}

// Promise 65: quotients are rounded towards 0, and rests have the sign of the first value.
func TestApplyMarkQuotients(t *testing.T) {
	for _, c := range [][4]int{
		{7, 2, 3, 1}, {-7, 2, -3, -1}, {7, -2, -3, 1}, {-7, -2, 3, -1}, {6, 3, 2, 0}, {-6, 3, -2, 0}, {6, -3, -2, 0}, {-6, -3, 2, 0},
		{1, 2, 0, 1}, {-1, 2, 0, -1}, {1, -2, 0, 1}, {-1, -2, 0, -1}, {0, 5, 0, 0}, {0, -5, 0, 0}, {5, 1, 5, 0}, {5, -1, -5, 0},
		{1000000, 1, 1000000, 0}, {1000000, -1, -1000000, 0}, {-1000000, -1, 1000000, 0}, {1000000, 999999, 1, 1}, {-1000000, 999999, -1, -1}, {999999, 1000000, 0, 999999}, {-999999, 1000000, 0, -999999},
	} {
		wantApplied(t, "/", c[0], c[1], c[2], impl.ValueGood)
		wantApplied(t, "%", c[0], c[1], c[3], impl.ValueGood)
	}
	for _, a := range someValues() {
		wantApplied(t, "/", a, 0, 0, impl.ValueZero)
		wantApplied(t, "%", a, 0, 0, impl.ValueZero)
		wantApplied(t, "*", a, 0, 0, impl.ValueGood)
	}
}

// Promise 65: a value just in range, and one just out of it.
func TestApplyMarkRange(t *testing.T) {
	const most = impl.MaxValue
	for _, c := range []struct {
		mark    string
		a, b    int
		inRange bool
	}{
		{"+", most, 0, true}, {"+", most - 1, 1, true}, {"+", most, 1, false}, {"+", 1, most, false}, {"+", most, most, false}, {"+", most, -most, true},
		{"+", -most, -1, false}, {"+", -most + 1, -1, true}, {"+", -most, -most, false}, {"+", 500000, 500000, true}, {"+", 500000, 500001, false},
		{"-", most, 0, true}, {"-", most, -1, false}, {"-", -most, 1, false}, {"-", 1 - most, 1, true}, {"-", -1, most, false}, {"-", 0, most, true}, {"-", most, most, true}, {"-", -most, most, false},
		{"*", 1000, 1000, true}, {"*", 1000, 1001, false}, {"*", -1000, 1000, true}, {"*", -1000, 1001, false}, {"*", -1001, -1000, false}, {"*", most, 1, true}, {"*", most, -1, true}, {"*", most, 2, false}, {"*", most, most, false}, {"*", -most, most, false}, {"*", 500000, 2, true}, {"*", 333333, 3, true}, {"*", 333334, 3, false},
		{"/", most, -1, true}, {"%", most, most, true},
	} {
		want, fault := appliedAnotherWay(c.mark, c.a, c.b)
		if (fault == impl.ValueGood) != c.inRange {
			t.Fatalf("%d %s %d is %d, %d in the other way", c.a, c.mark, c.b, want, fault)
		}
		wantApplied(t, c.mark, c.a, c.b, want, fault)
	}
}

// Promise 65: marks that compare and join are 1 or 0, whatever the values are.
func TestApplyMarkTruths(t *testing.T) {
	for _, c := range []struct {
		a, b int
		hold string
	}{
		{1, 2, "!= < <= && ||"}, {2, 1, "!= > >= && ||"}, {2, 2, "== <= >= && ||"}, {0, 0, "== <= >="}, {0, 3, "!= < <= ||"}, {-3, 0, "!= < <= ||"}, {0, -3, "!= > >= ||"},
		{-1, 1, "!= < <= && ||"}, {-2, -1, "!= < <= && ||"}, {-5, -5, "== <= >= && ||"}, {1000000, -1000000, "!= > >= && ||"}, {2, 4, "!= < <= && ||"},
	} {
		for _, mark := range strings.Fields("== != < > <= >= && ||") {
			wantApplied(t, mark, c.a, c.b, oneOf(slices.Contains(strings.Fields(c.hold), mark)), impl.ValueGood)
		}
	}
}

// Promise 65: all marks with all pairs of some values, and that quotients and rests belong together.
func TestApplyMarkAnotherWay(t *testing.T) {
	back := map[string]string{"==": "==", "!=": "!=", "<": ">", ">": "<", "<=": ">=", ">=": "<=", "&&": "&&", "||": "||", "+": "+", "*": "*"}
	for _, a := range someValues() {
		for _, b := range someValues() {
			for _, mark := range marksOfValues() {
				want, fault := appliedAnotherWay(mark, a, b)
				wantApplied(t, mark, a, b, want, fault)
				if back[mark] != "" {
					wantApplied(t, back[mark], b, a, want, fault)
				}
			}
			quotient, _ := impl.ApplyMark("/", a, b)
			rest, fault := impl.ApplyMark("%", a, b)
			if fault == impl.ValueGood && (quotient*b+rest != a || rest*rest >= b*b || rest*a < 0) {
				t.Fatalf("%d divided by %d is %d, and %d is the rest", a, b, quotient, rest)
			}
		}
	}
}

// Promise 65: what is not in range, and what is no mark between values, also for what has another fault then.
func TestApplyMarkInvalid(t *testing.T) {
	for _, mark := range marksOfValues() {
		for _, out := range []int{impl.MaxValue + 1, -impl.MaxValue - 1, 1 << 31, 1 << 32, -(1 << 32), math.MaxInt, math.MinInt} {
			for _, value := range []int{0, 1, -1, impl.MaxValue, -impl.MaxValue, out, -out} {
				wantApplied(t, mark, out, value, 0, impl.ValueSyntax)
				wantApplied(t, mark, value, out, 0, impl.ValueSyntax)
			}
		}
		for _, other := range []string{mark + " ", " " + mark, mark + mark, mark + "+", "+" + mark, mark + "\n", "\x00" + mark, mark + "1"} {
			wantApplied(t, other, 1, 2, 0, impl.ValueSyntax)
			wantApplied(t, other, 1, 0, 0, impl.ValueSyntax)
		}
	}
	others := append(slices.Clone(singleMarks), doubleMarks...)
	others = append(others, "", " ", "a", "0", "1", `""`, `"+"`, "=<", "=>", "<>", "<<", ">>", "**", "//", "and", "^", "~", "\u00e9", "\xff", strings.Repeat("+", 300))
	for _, mark := range others {
		if strengthOfMark(mark) > 0 {
			continue
		}
		for _, value := range []int{0, 1, -1, impl.MaxValue, math.MaxInt} {
			wantApplied(t, mark, value, 0, 0, impl.ValueSyntax)
			wantApplied(t, mark, 0, value, 0, impl.ValueSyntax)
			wantApplied(t, mark, value, value, 0, impl.ValueSyntax)
		}
	}
}

// Promise 66: all numbers in 0..MaxValue, with as many zeros before them as there may be, and some behind these.
func TestNumberOfAllNumbers(t *testing.T) {
	for n := range impl.MaxValue + 1000 {
		text, want := strconv.Itoa(n), n
		if n > impl.MaxValue {
			want = -1
		}
		for len(text) <= 7 {
			if got := impl.NumberOf(text); got != want {
				t.Fatalf("NumberOf(%q) = %d, want %d", text, got, want)
			}
			text = "0" + text
		}
		if got := impl.NumberOf(text); got != -1 {
			t.Fatalf("NumberOf(%q) = %d, want -1", text, got)
		}
	}
}

// Promise 66: texts of exactly seven digits, and of more, and numbers just out of range.
func TestNumberOfLongTexts(t *testing.T) {
	for text, want := range map[string]int{
		"0": 0, "00": 0, "0000000": 0, "00000000": -1, "7": 7, "007": 7, "0000007": 7, "00000007": -1, "999999": 999999, "0999999": 999999, "00999999": -1,
		"1000000": 1000000, "01000000": -1, "1000001": -1, "1000009": -1, "1000010": -1, "1999999": -1, "2000000": -1, "9999999": -1, "10000000": -1, "12345678": -1, "123456789012": -1,
		"18446744073709551616": -1, "18446744073709551617": -1, "4294967297": -1, strings.Repeat("0", 300): -1,
	} {
		wantNumber(t, text, want)
	}
}

// Promise 66: all short texts of some bytes, against an expression; what is no number has not even one in it.
func TestNumberOfShortTexts(t *testing.T) {
	digits := regexp.MustCompile(`^[0-9]{1,7}$`)
	for _, text := range append(linesOf("0159a_-+ ", 4), linesOf("09/:", 7)...) {
		want := -1
		if digits.MatchString(text) {
			if n, _ := new(big.Int).SetString(text, 10); n.Cmp(big.NewInt(impl.MaxValue)) <= 0 {
				want = int(n.Int64())
			}
		}
		if got := impl.NumberOf(text); got != want {
			t.Fatalf("NumberOf(%q) = %d, want %d", text, got, want)
		}
	}
	for _, text := range []string{"", " ", "-1", "+1", "-0", " 1", "1 ", "1\n", "\n1", "\x001", "1\x00", "0x1", "0b1", "0o7", "1e3", "1.0", "1_0", "12a", "a12", "a", `"1"`, "\u0661", "\uff11", "\xb1", "1\xff", "1,000"} {
		wantNumber(t, text, -1)
	}
}

// Promise 9: ordinary values.
func TestValueOfOrdinary(t *testing.T) {
	wantValues(t, map[string]int{
		"0": 0, "1": 1, "007": 7, "1000000": 1000000, "a": 0, "_": 0, "defined": 0, "abcdefghijkl": 0,
		"1 + 2": 3, "1+2": 3, "1 - 2": -1, "2 * 3": 6, "7 / 2": 3, "7 % 2": 1, "a + 1": 1, "a == b": 1, "1 == a": 0, "a || 2": 1,
		"1 == 1": 1, "1 != 1": 0, "1 < 2": 1, "1 > 2": 0, "2 <= 2": 1, "2 >= 3": 0, "1 && 2": 1, "1 && 0": 0, "0 || 0": 0, "0 || -1": 1,
		"(1)": 1, "((1))": 1, "(a)": 0, "(1 + 2) * 3": 9, "1 + 2 * 3": 7, "2 * (3 + 4) * 5": 70, "(1) + (2)": 3, "((1 + 2) * (3 + 4))": 21,
		"-7 / 2": -3, "-7 % 2": -1, "7 / -2": -3, "7 % -2": 1, "-7 / -2": 3, "-7 % -2": -1, "-1000000": -1000000, "-1000000 + 1000000": 0, "-999999 - 1": -1000000,
		"1 ? 2 : 3": 2, "0 ? 2 : 3": 3, "-1 ? 2 : 3": 2, "a ? 2 : 3": 3, "1 < 2 ? 3 + 4 : 5 * 6": 7,
	})
}

// Promise 9: ! and - before values, before each other, and before ( bind more strongly than all marks between values.
func TestValueOfMarksBefore(t *testing.T) {
	wantValues(t, map[string]int{
		"!0": 1, "!1": 0, "!7": 0, "!-1": 0, "!a": 1, "!!0": 0, "!!7": 1, "!!!7": 0, "! ! a": 0, "-5": -5, "- -5": 5, "--5": 5, "---5": -5, "-0": 0, "-a": 0,
		"-!0": -1, "-!5": 0, "!-0": 1, "!-5": 0, "-!-!0": 0, "!-!0": 0, "-!!9": -1, "-(5)": -5, "!(0)": 1, "-(-(5))": 5, "-(2 + 3)": -5, "!(1 - 1)": 1, "-(1 ? 2 : 3)": -2,
		"!0 + 1": 2, "!1 + 1": 1, "-2 * 3": -6, "-2 + 3": 1, "2 * -3": -6, "2 - -3": 5, "2--3": 5, "2 - - -3": -1, "2+-3": -1, "!0 == 0": 0, "!1 == 0": 1, "!2 * 0": 0, "0 == !1": 1,
		"-1 < 0": 1, "!0 && !0": 1, "!1 || !0": 1, "!0 ? 2 : 3": 2, "!1 ? 2 : 3": 3, "1 ? -2 : -3": -2, "0 ? !2 : !0": 1, "-7 / 2 * -2": 6, "-1 - 1": -2, "!a + !b": 2, "!(a + 1) == a": 1,
	})
	before := []string{"!", "-", "!!", "--", "!-", "-!"}
	values := []int{0, 1, -1, 2, 7}
	apply := func(marks string, value int) int {
		for _, mark := range slices.Backward([]byte(marks)) {
			value = map[byte]int{'!': oneOf(value == 0), '-': -value}[mark]
		}
		return value
	}
	for _, mark := range marksOfValues() {
		for _, first := range before {
			for _, second := range before {
				for _, a := range values[:4] {
					for _, b := range values {
						want, fault := appliedAnotherWay(mark, apply(first, a), apply(second, b))
						line := first + "(" + strconv.Itoa(a) + ")" + mark + " " + second + "(" + strconv.Itoa(b) + ")"
						wantValueOf(t, tokensOf(t, line), want, fault)
					}
				}
			}
		}
	}
}

// Promise 9: marks of the same strength bind from the left to the right.
func TestValueOfRows(t *testing.T) {
	wantValues(t, map[string]int{
		"10 - 3 - 2": 5, "10 - 3 + 2": 9, "10 + 3 - 2": 11, "1 - 2 - 3 - 4": -8, "1 - 2 + 3 - 4 + 5": 3, "100 / 10 / 5": 2, "100 / 10 * 5": 50, "100 * 10 / 5": 200, "7 / 2 * 2": 6, "2 * 7 / 2": 7,
		"7 % 4 * 2": 6, "2 * 7 % 4": 2, "17 % 10 % 4": 3, "17 / 5 % 2": 1, "17 % 5 / 2": 1, "1 / 2 * 1000000 * 1000": 0,
		"3 > 2 > 1": 0, "3 > 2 >= 1": 1, "1 < 2 < 3": 1, "3 < 2 < 1": 1, "2 <= 2 <= 0": 0, "1 >= 1 > 0": 1, "5 < 4 >= 0": 1,
		"2 == 2 == 2": 0, "2 == 2 == 1": 1, "1 != 2 != 1": 0, "0 == 0 != 0": 1, "3 != 3 == 0": 1, "0 == 1 == 0": 1,
		"0 && 1 && 1": 0, "1 && 1 && 1": 1, "0 || 0 || 1": 1, "0 || 0 || 0": 0,
	})
	wantNoValues(t, impl.ValueRange, "1000000 * 2 / 2", "1000000 + 1 - 1", "1000 * 1000 * 2 / 4")
	wantValues(t, map[string]int{"1000000 / 2 * 2": 1000000, "1000000 - 1 + 1": 1000000, "1000000 * (2 / 2)": 1000000, "2 - (3 - 4)": 3})
}

// Promise 9: with two marks between values the stronger one is first, and of the same strength the left one.
func TestValueOfStrengths(t *testing.T) {
	wantValues(t, map[string]int{
		"1 || 0 && 0": 1, "0 && 0 || 1": 1, "0 || 1 && 0": 0, "1 && 0 == 0": 1, "0 == 0 && 0": 0, "2 == 1 < 5": 0, "1 == 1 < 5": 1, "1 < 2 == 1": 1, "1 < 1 + 1": 1, "1 + 1 < 1": 0, "2 < 1 == 0": 1,
		"1 + 2 * 3 - 4 / 2": 5, "1 - 6 % 4": -1, "2 * 3 + 4 * 5": 26, "1 < 2 && 3 < 4 || 0": 1, "1 + 1 == 2 && 2 * 2 != 5": 1, "5 - 2 > 2 != 0": 1, "0 || 2 == 1 + 1": 1,
	})
	values := []int{0, 1, 2, 3, 1000000}
	for _, first := range marksOfValues() {
		for _, second := range marksOfValues() {
			for number := range 125 {
				a, b, c := values[number/25], values[number/5%5], values[number%5]
				want, fault := appliedInOrder(first, second, a, b, c)
				words := []string{strconv.Itoa(a), first, strconv.Itoa(b), second, strconv.Itoa(c)}
				wantValueOf(t, tokensOf(t, strings.Join(words, " ")), want, fault)
			}
		}
	}
}

// appliedInOrder reckons with three values and two marks between them.
func appliedInOrder(first string, second string, a int, b int, c int) (int, int) {
	if strengthOfMark(second) > strengthOfMark(first) {
		right, fault := appliedAnotherWay(second, b, c)
		if fault != impl.ValueGood {
			return 0, fault
		}
		return appliedAnotherWay(first, a, right)
	}
	left, fault := appliedAnotherWay(first, a, b)
	if fault != impl.ValueGood {
		return 0, fault
	}
	return appliedAnotherWay(second, left, c)
}

// Promise 9: ? and : bind weakest, also within each other.
func TestValueOfChoices(t *testing.T) {
	wantValues(t, map[string]int{
		"1 ? 2 : 3": 2, "0 ? 2 : 3": 3, "1?2:3": 2, "0 ? 2 : 0 ? 3 : 4": 4, "0 ? 2 : 1 ? 3 : 4": 3, "1 ? 2 : 1 ? 3 : 4": 2, "1 ? 2 : 0 ? 3 : 4": 2,
		"1 ? 1 ? 2 : 3 : 4": 2, "1 ? 0 ? 2 : 3 : 4": 3, "0 ? 1 ? 2 : 3 : 4": 4, "0 ? 0 ? 2 : 3 : 4": 4,
		"1 ? 0 ? 2 : 3 : 0 ? 4 : 5": 3, "0 ? 0 ? 2 : 3 : 0 ? 4 : 5": 5, "1 ? 0 ? 2 : 0 ? 3 : 4 : 5": 4, "0 ? 1 : 0 ? 2 : 0 ? 3 : 4": 4, "1 ? 1 ? 1 ? 2 : 3 : 4 : 5": 2,
		"(1 ? 0 : 1) ? 2 : 3": 3, "(0 ? 0 : 1) ? 2 : 3": 2, "1 ? (0 ? 2 : 3) : 4": 3, "0 ? 2 : (0 ? 3 : 4)": 4, "(1 ? 2 : 3)": 2, "((1) ? (2) : (3))": 2,
		"0 || 1 ? 2 : 3": 2, "1 && 0 ? 2 : 3": 3, "1 ? 2 : 3 + 4": 2, "0 ? 2 : 3 + 4": 7, "1 ? 2 + 3 : 4": 5, "(1 ? 2 : 3) + 4": 6, "1 + (0 ? 2 : 3)": 4, "1 + 0 ? 2 : 3": 2, "1 - 1 ? 2 : 3": 3,
		"1 ? 2 : 0 || 0": 2, "0 ? 2 : 0 || 3": 1, "1 ? 0 || 0 : 1": 0, "1 ? 5 == 5 ? 7 : 8 : 9": 7, "a ? b : c": 0, "1 ? 0 : 1": 0,
	})
	wantNoValues(t, impl.ValueSyntax, "1 ?", "1 ? 2", "1 ? 2 :", "1 ? : 3", "? 2 : 3", "1 : 2", "1 ? 2 : 3 : 4", "1 : 2 ? 3", "1 ? 2 ? 3 : 4", "1 ? 2 : 3 ? 4", "1 ? (2 : 3)", "(1 ? 2) : 3", "1 ? 2 : 3 4", "1 ? 2 3 : 4", "? :", "1 ?: 2", "1 ? 2 ; 3")
	// Both values are looked at in any case.
	wantNoValues(t, impl.ValueZero, "1 ? 2 : 3 / 0", "0 ? 2 / 0 : 3", "1 ? 2 : 0 ? 3 : 4 % 0", "1 ? 2 : (3 ? 1 / 0 : 4)", "0 ? 1 ? 2 / 0 : 3 : 4", "0 && 1 / 0", "1 || 1 / 0", "1 / 0 ? 2 : 3")
	wantNoValues(t, impl.ValueRange, "1 ? 2 : 1000000 + 1", "0 ? 1000000 + 1 : 2", "0 && 1000000 + 1", "1 || 1000000 * 2")
}

// Tokens that are not so: the fault is ValueSyntax if all before it can be reckoned.
func TestValueOfSyntax(t *testing.T) {
	wantNoValues(t, impl.ValueSyntax, "", "  ", "+", "-", "!", "(", ")", "()", "( )", "(())", "!()", "-()", "1 +", "+ 1", "* 1", "1 + + 1", "1 + * 1", "1 -", "1 !", "1 - !", "1 ! 2", "1 !! 2", "1 && || 2",
		"(1", "((1)", "1)", "(1))", ")1(", "(1)(2)", "1 2", "1 a", "a 1", "a b", "a (1)", "a()", "1 (2)", "(1) 2", "(1) a", "(1 2)", "(1, 2)", "1, 2", "1,", ",", "1;", "#1", "1 # 2", "1 ## 2", "# a", "a ## b",
		"= 1", "1 = 1", "1 & 1", "1 | 1", "& 1", "{1}", "[1]", "1.0", ".", "1 . 2", "1 = = 1", "1 ! = 1", "1 < = 1", "1 & & 1", "1 < > 2", "defined(a)", "defined a", "1 == == 1", "!= 1", "- / 1", "a !", "1 (", "1 + (", "1 + )")
	// A text is no value, wherever it stands, and neither is a number with letters or with more than seven digits, or above MaxValue.
	for _, word := range []string{`""`, `"a"`, `"1"`, `"+"`, "1a", "0x10", "1_", "00000001", "12345678", "1000001", "9999999", "123456789012", "1e5", "0b1"} {
		for _, line := range []string{"W", "(W)", "!W", "-W", "W + 1", "1 + W", "1 * W - 1", "W ? 1 : 2", "0 ? W : 2", "1 ? 2 : W", "0 && W", "1 || W", "W / 0", "0 / W", "1000000 + W", "1000000 + 1 * W", "W 1 / 0"} {
			wantNoValues(t, impl.ValueSyntax, strings.ReplaceAll(line, "W", word))
		}
		wantNoValues(t, impl.ValueZero, "1 / 0 "+word, "1 / 0 + "+word, "(1 / 0) "+word, "1 % 0 ? "+word+" : 1")
		wantNoValues(t, impl.ValueRange, "1000000 + 1 "+word, "1000000 + 1 - "+word, "1000000 + 1 < "+word)
	}
	wantValues(t, map[string]int{"0000001": 1, "1000000": 1000000, "a1": 0, "_1": 0, "x12345678": 0})
}

// The first of several faults, where a value is reckoned as soon as its last token was read.
func TestValueOfFirstFault(t *testing.T) {
	wantNoValues(t, impl.ValueZero,
		"1 / 0", "1 % 0", "0 / 0", "0 % 0", "1 / a", "1 / (2 - 2)", "1 % (a)", "1 / !1", "1 / -0", "-(1 / 0)", "!(1 / 0)", "2 * 3 / 0", "1 / 0 * 2", "1 / (1 / 2)",
		"1 / 0 +", "1 / 0 )", "1 / 0 (", "1 / 0 2", "1 / 0 a", "(1 / 0", "((1 / 0)", "1 / 0 ?", "1 / 0 ? 2", "1 / 0 :", "1 ? 1 / 0", "1 ? 1 / 0 2", "1 / 0 = 1", "1 / 0 !", "1 + 1 / 0 +", "1 / 0 + + 1", "1 / 0 - )", "2 < 1 / 0 )",
		"1 / 0 + 1000000 * 2", "1000000 + 1 / 0", "1000000 * (1 / 0)", "1000000 + (1 % 0)", "1000000 - 1000000 / 0", "1 / 0 + (1000000 + 1)", "1 / 0 ? 1000000 + 1 : 2", "1 ? 1 / 0 : 1000000 + 1", "0 ? 1 / 0 : 1000000 + 1", "1000000 < 1 / 0 + 1000000 * 2", "1000000 + 1 * 0 / 0",
		"1 / (1000000 * 0)", "1000000 + 0 || 1 / 0")
	wantNoValues(t, impl.ValueRange,
		"1000000 + 1", "-1000000 - 1", "1000 * 1001", "1000000 + 1 +", "1000000 + 1 )", "(1000000 + 1", "1000000 + 1 2", "1000000 * 2 / 0", "1000000 + 1 / 1", "1000000 + 1 + 1 / 0", "1000000 + 1 ? 1 / 0 : 2", "1 ? 1000000 + 1 : 1 / 0", "0 ? 1000000 + 1 : 1 / 0", "(1000000 + 1) / 0",
		"1 / (1000000 + 1)", "1000000 + 1 < 1 / 0", "1000000 + 1 || 1 / 0", "1000000 + 2 / 2 +", "2 * 1000000 - 1000000", "1 ? 1000000 + 1", "1 ? 1000000 + 1 )", "1000000 + 1 * 1 )", "1000000 + 1 (", "!(1000000 + 1) / 0", "1000000 + 1 !", "1000000 + 1 # /", "1000000 + 1 : 2", "1 - -1000000 -", "1000000 + (1)(", "1000000 + (1) 1 / 0")
	// A value whose last token was not read yet is not reckoned.
	wantNoValues(t, impl.ValueSyntax,
		"1000000 + 1 *", "1000000 + 1 * )", "1000000 + (1", "1000000 + (1 1", "1 - -1000000 *", "1 / (0", "1 / (0 +", "1 / 0x", "1 / !", "1 / (", "1 / ()", "1000000 + 1 / (", "1000000 + -", "1000000 - -", "1 + ) 1 / 0", ") 1 / 0", "() / 0", "1 ( / 0", "1 2 / 0", "a a / 0", "1 ? : 1 / 0", "1 ? 2 ; 1 / 0", "? 1 / 0", "* 1 / 0", "(1 2 / 0)", "(1 + ) / 0", "1 +* 1000000 + 1")
}

// A list of exactly MaxTokens tokens, and deep ones.
func TestValueOfManyTokens(t *testing.T) {
	sum := tokensOf(t, "1"+strings.Repeat(" + 1", 29))
	wantValueOf(t, sum, 30, impl.ValueGood)
	wantValueOf(t, append(besides(t, "-"), sum...), 28, impl.ValueGood)
	for count := range impl.MaxTokens {
		list := append(manyTokens(beside(aMark, "-"), count), beside(aNumber, "7"))
		wantValueOf(t, list, []int{7, -7}[count%2], impl.ValueGood)
		list = append(manyTokens(beside(aMark, "!"), count), beside(aNumber, "7"))
		wantValueOf(t, list, []int{7, 0, 1}[min(count, 2-count%2)], impl.ValueGood)
	}
	for count := range 30 {
		list := slices.Concat(manyTokens(beside(aMark, "("), count), besides(t, "7"), manyTokens(beside(aMark, ")"), count))
		wantValueOf(t, list, 7, impl.ValueGood)
		wantValueOf(t, list[:len(list)-1], 0, impl.ValueSyntax)
		wantValueOf(t, append(list, beside(aMark, ")")), 0, impl.ValueSyntax)
	}
	for count := range 14 {
		wantValueOf(t, besides(t, strings.Repeat("0 ? 1 : ", count)+"5"), 5, impl.ValueGood)
		wantValueOf(t, besides(t, strings.Repeat("1 ? ", count)+"5"+strings.Repeat(" : 0", count)), 5, impl.ValueGood)
	}
	wantValueOf(t, manyTokens(beside(aMark, "("), impl.MaxTokens), 0, impl.ValueSyntax)
	wantValueOf(t, manyTokens(beside(aMark, "!"), impl.MaxTokens), 0, impl.ValueSyntax)
	wantValueOf(t, manyTokens(beside(aNumber, "1"), impl.MaxTokens), 0, impl.ValueSyntax)
	// One token more is too many, whatever its value would be.
	wantValueOf(t, append(manyTokens(beside(aMark, "-"), impl.MaxTokens), beside(aNumber, "1")), 0, impl.ValueSyntax)
	wantValueOf(t, append(besides(t, "- -"), sum...), 0, impl.ValueSyntax)
	wantValueOf(t, append(besides(t, "1 / 0 +"), sum[:58]...), 0, impl.ValueSyntax)
}

// Tokens that are not valid, anywhere, also behind what has another fault.
func TestValueOfInvalidTokens(t *testing.T) {
	for _, wrong := range wrongTokens() {
		for _, line := range []string{"", "1", "1 +", "1 / 0", "1000000 + 1", "(1)", "1 ? 2 : 3"} {
			list := besides(t, line)
			for i := range len(list) + 1 {
				wantValueOf(t, slices.Insert(slices.Clone(list), i, wrong), 0, impl.ValueSyntax)
			}
		}
	}
	for _, token := range []impl.Token{beside(aName, "1"), beside(aText, "1"), beside(aMark, "1"), beside(0, "1"), beside(aNumber, "a"), beside(aMark, "a"), beside(aNumber, " 1"), beside(aNumber, "-1"), beside(aNumber, ""), beside(aName, "")} {
		wantValueOf(t, []impl.Token{token}, 0, impl.ValueSyntax)
	}
	wantValueOf(t, nil, 0, impl.ValueSyntax)
	wantValueOf(t, []impl.Token{}, 0, impl.ValueSyntax)
}

// Whether tokens are Spaced, and their Hidden names, do not matter for their value.
func TestValueOfSpacedAndHidden(t *testing.T) {
	for _, line := range []string{"1+2*a", "-(3)", "!a?1:2", "1/0", "1000000+1", "(1", "a==b&&1<=2"} {
		list := besides(t, line)
		want, fault := impl.ValueOf(list)
		for i := range list {
			list[i].Spaced = i%2 == 0
			wantValueOf(t, list, want, fault)
			list[i].Hidden = [][]string{{"a"}, manyNames(impl.MaxTokens)}[i%2]
			wantValueOf(t, list, want, fault)
		}
	}
	// Marks of one byte side by side are not one of two, though they would be read so.
	wantValueOf(t, []impl.Token{beside(aNumber, "1"), beside(aMark, "="), beside(aMark, "="), beside(aNumber, "1")}, 0, impl.ValueSyntax)
	wantValueOf(t, []impl.Token{beside(aMark, "-"), beside(aNumber, "1"), beside(aNumber, "2")}, 0, impl.ValueSyntax)
}

// markStack is another way to reckon: what is read waits on two lists until it is known what it belongs to.
type markStack struct {
	values []int
	marks  []string
	fault  int
}

// before is what stands before the names of marks that are before a value in a markStack.
const before = "before "

// last returns the last mark that waits, and "" if there is none.
func (s *markStack) last() string {
	if len(s.marks) == 0 {
		return ""
	}
	return s.marks[len(s.marks)-1]
}

// take takes away the last mark, and some values, which it returns.
func (s *markStack) take(count int) []int {
	s.marks = s.marks[:len(s.marks)-1]
	taken := slices.Clone(s.values[len(s.values)-count:])
	s.values = s.values[:len(s.values)-count]
	return taken
}

// reckon reckons with the last mark as long as it is one between values of at least a strength.
func (s *markStack) reckon(least int) {
	for s.fault == impl.ValueGood && strengthOfMark(s.last()) >= max(least, 1) {
		mark := s.last()
		taken := s.take(2)
		value, fault := appliedAnotherWay(mark, taken[0], taken[1])
		s.values, s.fault = append(s.values, value), fault
	}
}

// end reckons all up to the last ( or ?.
func (s *markStack) end() {
	s.reckon(1)
	for s.fault == impl.ValueGood && s.last() == ":" {
		taken := s.take(3)
		s.values = append(s.values, taken[2-oneOf(taken[0] != 0)])
	}
}

// close ends all up to a mark, and takes that away; it is a fault if another one is the last one then.
func (s *markStack) close(mark string) {
	s.end()
	if s.fault == impl.ValueGood && s.last() != mark {
		s.fault = impl.ValueSyntax
	}
	if s.fault == impl.ValueGood && mark != "" {
		s.take(0)
	}
}

// put puts a value behind the others, after what is before it.
func (s *markStack) put(value int) {
	for strings.HasPrefix(s.last(), before) {
		value = map[string]int{before + "!": oneOf(value == 0), before + "-": -value}[s.last()]
		s.take(0)
	}
	s.values = append(s.values, value)
}

// numberText is the text of a number in 0..MaxValue of at most seven digits.
var numberText = regexp.MustCompile(`^(0?[0-9]{1,6}|1000000)$`)

// readValue reads a token where a value must be, and reports whether it is the end of one.
func (s *markStack) readValue(token impl.Token) bool {
	switch {
	case token.Text == "!" || token.Text == "-":
		s.marks = append(s.marks, before+token.Text)
		return false
	case token.Text == "(":
		s.marks = append(s.marks, "(")
		return false
	case token.Kind == aName:
		s.put(0)
	case numberText.MatchString(token.Text):
		n, _ := strconv.Atoi(token.Text)
		s.put(n)
	default:
		s.fault = impl.ValueSyntax
	}
	return true
}

// readMark reads a token behind a value, and reports whether it is the end of one, too.
func (s *markStack) readMark(token impl.Token) bool {
	switch strength := strengthOfMark(token.Text); {
	case strength > 0:
		s.reckon(strength)
		s.marks = append(s.marks, token.Text)
	case token.Text == "?":
		s.reckon(1)
		s.marks = append(s.marks, "?")
	case token.Text == ":":
		s.close("?")
		s.marks = append(s.marks, ":")
	case token.Text == ")":
		s.close("(")
		if s.fault == impl.ValueGood {
			s.put(s.values[len(s.values)-1])
			s.values = slices.Delete(s.values, len(s.values)-2, len(s.values)-1)
		}
		return true
	default:
		s.close("no mark at all")
	}
	return false
}

// valueAnotherWay returns the value of valid tokens, or the first fault, in another way.
func valueAnotherWay(list []impl.Token) (int, int) {
	var s markStack
	behind := false
	for _, token := range list {
		if behind {
			behind = s.readMark(token)
		} else {
			behind = s.readValue(token)
		}
		if s.fault != impl.ValueGood {
			return 0, s.fault
		}
	}
	if !behind {
		return 0, impl.ValueSyntax
	}
	s.close("")
	if s.fault != impl.ValueGood {
		return 0, s.fault
	}
	return s.values[0], impl.ValueGood
}

// checkValue compares ValueOf with the other way, and returns the fault.
func checkValue(t *testing.T, list []impl.Token) int {
	t.Helper()
	got, fault := impl.ValueOf(list)
	if want, wantFault := valueAnotherWay(list); got != want || fault != wantFault {
		t.Fatalf("ValueOf(%v) = %d, %d, want %d, %d", list, got, fault, want, wantFault)
	}
	if fault == impl.ValueGood {
		checkInParentheses(t, list)
	}
	return fault
}

// Promise 9: all short lists of some tokens.
func TestValueOfShortLists(t *testing.T) {
	faults := make([]int, 4)
	for _, pieces := range [][]string{{"0", "3", "1000000", "(", ")", "+", "/", "?", ":", "-", "!"}, {"1000000", "(", ")", "*", "&&", "<"}} {
		tokens := make(map[string]impl.Token)
		for _, piece := range pieces {
			tokens[piece] = besides(t, piece)[0]
		}
		for _, texts := range listsOf(pieces, 5) {
			var list []impl.Token
			for _, text := range texts {
				list = append(list, tokens[text])
			}
			faults[checkValue(t, list)]++
		}
	}
	if slices.Min(faults) < 500 {
		t.Errorf("the faults come as often as %v", faults)
	}
}

// valueTree is a value: a word alone, or a mark and the values that belong to it.
type valueTree struct {
	text  string
	parts []valueTree
}

// tree returns a value that has values within each other down to a depth at most.
func (c *choices) tree(depth int) valueTree {
	words := []string{"0", "1", "2", "3", "7", "10", "1000", "1000000", "a", "0000012"}
	kind := c.below(8)
	switch {
	case depth == 0 || kind == 0:
		return valueTree{text: words[c.below(len(words))]}
	case kind == 1:
		return valueTree{text: []string{"!", "-"}[c.below(2)], parts: []valueTree{c.tree(depth - 1)}}
	case kind == 2:
		return valueTree{text: "?", parts: []valueTree{c.tree(depth - 1), c.tree(depth - 1), c.tree(depth - 1)}}
	}
	row := marksByStrength[c.below(len(marksByStrength))]
	return valueTree{text: row[c.below(len(row))], parts: []valueTree{c.tree(depth - 1), c.tree(depth - 1)}}
}

// strength returns how strongly a value holds together: from 0 for ? and : up to 8 for a word.
func (v valueTree) strength() int {
	switch len(v.parts) {
	case 0:
		return 8
	case 1:
		return 7
	case 3:
		return 0
	}
	return strengthOfMark(v.text)
}

// line returns the line of a value, which is in parentheses if it is weaker than told, or all of them are to be.
func (v valueTree) line(least int, all bool) string {
	line := v.text
	switch len(v.parts) {
	case 1:
		line += " " + v.parts[0].line(7, all)
	case 2:
		line = v.parts[0].line(v.strength(), all) + " " + v.text + " " + v.parts[1].line(v.strength()+1, all)
	case 3:
		line = v.parts[0].line(1, all) + " ? " + v.parts[1].line(0, all) + " : " + v.parts[2].line(0, all)
	}
	if all || v.strength() < least {
		return "(" + line + ")"
	}
	return line
}

// value returns a value and ValueGood, or the first fault, where the parts are reckoned from the left to the right.
func (v valueTree) value() (int, int) {
	var values []int
	for _, part := range v.parts {
		value, fault := part.value()
		if fault != impl.ValueGood {
			return 0, fault
		}
		values = append(values, value)
	}
	switch {
	case len(values) == 2:
		return appliedAnotherWay(v.text, values[0], values[1])
	case v.text == "!":
		return oneOf(values[0] == 0), impl.ValueGood
	case v.text == "-":
		return -values[0], impl.ValueGood
	case v.text == "?":
		return values[2-oneOf(values[0] != 0)], impl.ValueGood
	}
	n, _ := strconv.Atoi(v.text)
	return n, impl.ValueGood
}

// Promise 9: values that are put together in a fixed order have the same value with all parentheses as with as few as possible.
func TestValueOfTrees(t *testing.T) {
	c := choices{seed: 4}
	faults := make([]int, 4)
	for range 20000 {
		tree := c.tree(1 + c.below(5))
		want, fault := tree.value()
		for _, line := range []string{tree.line(0, false), tree.line(0, true)} {
			list, ok := impl.TokensOf(line)
			if !ok {
				continue
			}
			wantValueOf(t, list, want, fault)
			checkInParentheses(t, list)
			faults[fault]++
		}
	}
	if faults[impl.ValueGood] < 10000 || faults[impl.ValueZero] < 1000 || faults[impl.ValueRange] < 1000 || faults[impl.ValueSyntax] > 0 {
		t.Errorf("the faults come as often as %v", faults)
	}
}

// Promise 9: such values with a token left out, put in, or in place of another one.
func TestValueOfTreesWithFaults(t *testing.T) {
	c := choices{seed: 5}
	texts := append(marksOfValues(), "(", ")", "?", ":", "!", "-", "1", "0", "a", `"a"`, "1a", "1000001", "##", ",", "=")
	faults := make([]int, 4)
	for range 20000 {
		list, ok := impl.TokensOf(c.tree(1+c.below(4)).line(0, c.below(4) == 0))
		if !ok || len(list) == impl.MaxTokens {
			continue
		}
		at, token := c.below(len(list)), besides(t, texts[c.below(len(texts))])
		switch c.below(3) {
		case 0:
			list = slices.Delete(list, at, at+1)
		case 1:
			list = slices.Insert(list, at, token...)
		default:
			list[at] = token[0]
		}
		faults[checkValue(t, list)]++
	}
	if slices.Min(faults) < 200 {
		t.Errorf("the faults come as often as %v", faults)
	}
}

// The general rules: arguments are not written to, and no state is kept.
func TestValueOfKeepsArguments(t *testing.T) {
	for _, line := range []string{"1 + 2 * 3", "-(a) ? 1 : !b", "1 / 0", "1000000 + 1", "(1", ""} {
		list := roomyTokens(t, line)
		whole := wholeTokens(list)
		value, fault := impl.ValueOf(list)
		if !reflect.DeepEqual(wholeTokens(list), whole) {
			t.Fatalf("the tokens of %q are now %v", line, list)
		}
		wantNoValues(t, impl.ValueZero, "5 / 0 + 1")
		wantValueOf(t, list, value, fault)
	}
}
