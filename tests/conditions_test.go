package tests

import (
	"reflect"
	"regexp"
	"slices"
	"strings"
	"testing"

	"loop.example/macroprocessor/impl"
)

// wantReplaced checks ReplaceDefined of tokens in which defined can be replaced, and what promise 10 says of them.
func wantReplaced(t *testing.T, table []impl.Macro, list []impl.Token, want []impl.Token) {
	t.Helper()
	got, ok := impl.ReplaceDefined(table, list)
	if !ok || !sameTokens(got, want) {
		t.Errorf("ReplaceDefined(%v, %v) = %v, %v, want %v, true", table, list, got, ok, want)
		return
	}
	checkReplacedAgain(t, table, got)
}

// checkReplacedAgain checks that no name defined is left in replaced tokens, and that replacing again changes nothing.
func checkReplacedAgain(t *testing.T, table []impl.Macro, replaced []impl.Token) {
	t.Helper()
	wantTokensValid(t, replaced, true)
	if slices.ContainsFunc(replaced, isDefinedName) {
		t.Errorf("the name defined is left in %v", replaced)
	}
	if again, ok := impl.ReplaceDefined(table, replaced); !ok || !sameTokens(again, replaced) {
		t.Errorf("replaced again, %v is %v, %v", replaced, again, ok)
	}
}

// isDefinedName reports whether a token is the name defined.
func isDefinedName(token impl.Token) bool {
	return token.Kind == aName && token.Text == "defined"
}

// wantNotReplaced checks that ReplaceDefined of tokens is nil and false.
func wantNotReplaced(t *testing.T, table []impl.Macro, list []impl.Token) {
	t.Helper()
	if got, ok := impl.ReplaceDefined(table, list); ok || len(got) != 0 {
		t.Errorf("ReplaceDefined(%v, %v) = %v, %v, want nothing and false", table, list, got, ok)
	}
}

// checkReplacements checks ReplaceDefined of lines, and of what they are replaced by, by kinds, texts and Spaced.
func checkReplacements(t *testing.T, table []impl.Macro, replacements map[string]string) {
	t.Helper()
	for line, want := range replacements {
		wantReplaced(t, table, tokensOf(t, line), tokensOf(t, want))
	}
}

// wantCondition checks ConditionOf of tokens that are a condition.
func wantCondition(t *testing.T, table []impl.Macro, list []impl.Token, want bool) {
	t.Helper()
	if got, ok := impl.ConditionOf(table, list); !ok || got != want {
		t.Errorf("ConditionOf(%v, %v) = %v, %v, want %v, true", table, list, got, ok, want)
	}
}

// wantNoCondition checks that ConditionOf of tokens is false and false.
func wantNoCondition(t *testing.T, table []impl.Macro, list []impl.Token) {
	t.Helper()
	if got, ok := impl.ConditionOf(table, list); ok || got {
		t.Errorf("ConditionOf(%v, %v) = %v, %v, want false and false", table, list, got, ok)
	}
}

// wantConditions checks ConditionOf of lines that all hold, or all do not, and what promise 67 says of them.
func wantConditions(t *testing.T, table []impl.Macro, want bool, lines ...string) {
	t.Helper()
	for _, line := range lines {
		if got, ok := impl.ConditionOf(table, tokensOf(t, line)); !ok || got != want {
			t.Errorf("ConditionOf %q = %v, %v, want %v, true", line, got, ok, want)
		}
		checkCondition(t, table, tokensOf(t, line))
	}
}

// wantNoConditions checks that ConditionOf of lines is false and false, with ! and parentheses around them, too.
func wantNoConditions(t *testing.T, table []impl.Macro, lines ...string) {
	t.Helper()
	for _, line := range lines {
		if got, ok := impl.ConditionOf(table, tokensOf(t, line)); ok || got {
			t.Errorf("ConditionOf %q = %v, %v, want false and false", line, got, ok)
		}
		checkCondition(t, table, tokensOf(t, line))
	}
}

// definedParts are the parts of tokens, where d is the name defined, n another name, and . all that is no name and no parenthesis.
var definedParts = regexp.MustCompile(`d\([dn]\)|d[dn]|[^d]`)

// partsOfDefined returns where parts of tokens begin and end, and whether these are all of them.
func partsOfDefined(list []impl.Token) ([][]int, bool) {
	letters := ""
	for _, token := range list {
		switch {
		case isDefinedName(token):
			letters += "d"
		case token.Kind == aName:
			letters += "n"
		case token.Text == "(" || token.Text == ")":
			letters += token.Text
		default:
			letters += "."
		}
	}
	parts := definedParts.FindAllStringIndex(letters, -1)
	count := 0
	for _, part := range parts {
		count += part[1] - part[0]
	}
	return parts, count == len(list)
}

// replacedAnotherWay replaces defined in valid tokens in another way.
func replacedAnotherWay(table []impl.Macro, list []impl.Token) ([]impl.Token, bool) {
	parts, ok := partsOfDefined(list)
	if !ok {
		return nil, false
	}
	var replaced []impl.Token
	for _, part := range parts {
		token := list[part[0]]
		if part[1]-part[0] > 1 {
			name := list[part[0]+(part[1]-part[0])/2].Text
			found := slices.ContainsFunc(table, func(m impl.Macro) bool { return m.Name == name })
			token = impl.Token{Kind: aNumber, Text: []string{"0", "1"}[oneOf(found)], Spaced: token.Spaced}
		}
		replaced = append(replaced, token)
	}
	return replaced, true
}

// checkReplaced compares ReplaceDefined with the other way, and reports whether defined can be replaced.
func checkReplaced(t *testing.T, table []impl.Macro, list []impl.Token) bool {
	t.Helper()
	want, wantOK := replacedAnotherWay(table, list)
	got, ok := impl.ReplaceDefined(table, list)
	if ok != wantOK || !sameTokens(got, want) {
		t.Fatalf("ReplaceDefined(%v, %v) = %v, %v, want %v, %v", table, list, got, ok, want, wantOK)
	}
	if ok {
		checkReplacedAgain(t, table, got)
	}
	return ok
}

// conditionAnotherWay returns whether a condition holds, whether it is one, and what went wrong with the expansion, in another way.
func conditionAnotherWay(table []impl.Macro, list []impl.Token) (bool, bool, int) {
	replaced, ok := replacedAnotherWay(table, list)
	if !ok {
		return false, false, impl.ExpandGood
	}
	expanded, fault := expandedAnotherWay(table, replaced)
	if fault != impl.ExpandGood || mostHidden(expanded) > impl.MaxTokens {
		return false, false, fault
	}
	value, wrong := valueAnotherWay(expanded)
	return value != 0, wrong == impl.ValueGood, impl.ExpandGood
}

// checkCondition compares ConditionOf with the other way, and checks what promise 67 says; it returns 1 if the tokens hold, 0 if they do not, and 2 if they are no condition.
func checkCondition(t *testing.T, table []impl.Macro, list []impl.Token) int {
	t.Helper()
	want, wantOK, _ := conditionAnotherWay(table, list)
	got, ok := impl.ConditionOf(table, list)
	if got != want || ok != wantOK {
		t.Fatalf("ConditionOf(%v, %v) = %v, %v, want %v, %v", table, list, got, ok, want, wantOK)
	}
	if !ok {
		return 2
	}
	around := inParentheses(list, "!")
	if len(around) > impl.MaxTokens {
		return oneOf(got)
	}
	// There may be no room for so many tokens, or steps of them.
	if _, _, fault := conditionAnotherWay(table, around); fault != impl.ExpandLong {
		wantCondition(t, table, around, !got)
		wantCondition(t, table, inParentheses(list), got)
	}
	return oneOf(got)
}

// Promise 10: ordinary tokens.
func TestReplaceDefinedOrdinary(t *testing.T) {
	table := tableOf(t, "a 1", "b", "f(x) x", "longest_name 2")
	checkReplacements(t, table, map[string]string{
		"defined a": "1", "defined b": "1", "defined f": "1", "defined longest_name": "1", "defined c": "0", "defined A": "0", "defined aa": "0", "defined x": "0", "defined _": "0", "defined abcdefghijkl": "0",
		"defined(a)": "1", "defined ( a )": "1", "defined(c)": "0", "defined(f)": "1", "defined( f)": "1", "defined(x )": "0",
		"defined a && defined(c)": "1 && 0", "!defined a": "!1", "!defined(c)": "!0", "(defined a)": "(1)", "((defined(a)))": "((1))", "defined a == 1": "1 == 1", "-defined a": "-1",
		"x defined(a) defined b": "x 1 1", "defined a defined c defined b": "1 0 1", "defined(a)(c)": "1(c)", "defined a(c)": "1(c)", "defined(a) c": "1 c", "defined a)": "1)", "f(defined a, c)": "f(1, c)",
		"": "", "a": "a", "a b c": "a b c", "f(a) + 1": "f(a) + 1", "#define a": "#define a", "#if defined a": "#if 1", "# # defined(b)": "# # 1",
	})
	checkReplacements(t, nil, map[string]string{"": "", "defined a": "0", "defined(a) || a": "0 || a", "a b": "a b", "!defined b": "!0"})
}

// Only the name defined itself is replaced, not what looks like it.
func TestReplaceDefinedOtherNames(t *testing.T) {
	table := tableOf(t, "a 1")
	for _, line := range []string{"Defined a", "DEFINED(a)", "defined1 a", "defined_ a", "define a", "_defined a", "undefined a", "ifdef a", `"defined" a`, `"defined a"`, "1defined a", "a defined2", `"defined(a)" "defined"`, "def ined a", "1 a", "(a)"} {
		checkReplacements(t, table, map[string]string{line: line})
		checkReplacements(t, table, map[string]string{line + " defined a": line + " 1"})
	}
}

// Something else than a name is behind defined, or nothing.
func TestReplaceDefinedSomethingElse(t *testing.T) {
	for _, table := range [][]impl.Macro{nil, tableOf(t, "a 1", "f(x) x")} {
		behind := []string{"", "1", "0", "1a", `"a"`, `""`, "()", "(", ")", "(1)", "(a", "(a b", "(a b)", "(a,", "(a 1)", "(a (", "(a]", "((a))", "((a)", "( )", `("a")`, "(+)", "(a+)", "(!a)", "(f(a))", "[a]", "{a}", "!a", "-a", "+", "#", "## a", ",a", "; a", "(defined a)", "(defined", "(defined(a))", "defined(1)"}
		for _, mark := range append(slices.Clone(singleMarks), doubleMarks...) {
			if mark != "(" {
				behind = append(behind, mark, mark+" a", "(a "+mark, "( "+mark+" )", "( "+mark+" a)")
			}
		}
		for _, rest := range slices.DeleteFunc(behind, func(s string) bool { return s == "(a )" }) {
			if rest == "defined(1)" {
				// Here the first defined asks for the second one.
				continue
			}
			for _, before := range []string{"", "defined a ", "x ", "defined(c) && ", "f(a, "} {
				wantNotReplaced(t, table, tokensOf(t, before+"defined "+rest))
			}
		}
		for _, line := range []string{"defined + defined a", "defined a defined", "defined a + defined", "(defined)", "f(defined)", "defined 1 defined", "defined(a + defined a", "defined(a b) defined a"} {
			wantNotReplaced(t, table, tokensOf(t, line))
		}
	}
}

// The name behind defined may be defined itself, of which there is never a macro.
func TestReplaceDefinedOfDefined(t *testing.T) {
	for _, table := range [][]impl.Macro{nil, tableOf(t, "a 1"), tableOf(t, "a", "e 2"), tableOf(t, "Defined", "define", "defined1")} {
		checkReplacements(t, table, map[string]string{
			"defined defined": "0", "defined(defined)": "0", "defined defined b": "0 b", "defined defined 1": "0 1", "defined(defined) b": "0 b", "defined defined(b)": "0(b)", "defined defined defined b": "0 0", "defined defined defined(b)": "0 0",
			"defined defined defined defined": "0 0", "defined defined + defined defined": "0 + 0", "defined(defined) defined b": "0 0", "defined defined (defined defined)": "0 (0)",
		})
		for _, line := range []string{"defined", "defined defined defined", "defined(defined", "defined(defined b)", "defined(defined defined)", "defined defined defined 1", "defined(defined) defined", "defined (defined)(defined)defined"} {
			wantNotReplaced(t, table, tokensOf(t, line))
		}
	}
	// With a macro named defined no table is valid.
	for _, table := range [][]impl.Macro{{{Name: "defined"}}, append(macrosOf(t, "a"), impl.Macro{Name: "defined"}), {{Name: "defined", Body: besides(t, "1")}, {Name: "e"}}} {
		wantTableValid(t, table, false)
		for _, line := range []string{"", "a", "defined a", "defined defined", "defined(defined)", "1", "defined"} {
			wantNotReplaced(t, table, tokensOf(t, line))
			wantNoCondition(t, table, tokensOf(t, line))
		}
	}
}

// A macro is defined whatever it is, also one without tokens, one with Function, and all of a full table.
func TestReplaceDefinedFullTable(t *testing.T) {
	full := manyMacros(impl.MaxMacros)
	for i, m := range full {
		for _, other := range full {
			line := "defined " + m.Name + " + defined(" + other.Name + ")"
			wantReplaced(t, full, tokensOf(t, line), tokensOf(t, "1 + 1"))
			wantReplaced(t, slices.Delete(slices.Clone(full), i, i+1), tokensOf(t, line), tokensOf(t, "0 + "+[]string{"1", "0"}[oneOf(other.Name == m.Name)]))
			wantReplaced(t, full[i:i+1], tokensOf(t, line), tokensOf(t, "1 + "+[]string{"0", "1"}[oneOf(other.Name == m.Name)]))
		}
		for _, name := range []string{m.Name + "0", m.Name[:2], "N" + m.Name[1:], "a", "zz"} {
			wantReplaced(t, full, besides(t, "defined "+name), besides(t, "0"))
		}
	}
}

// What is in place of defined is Spaced as this, and not as the name behind it, and has no Hidden names; all other tokens stay.
func TestReplaceDefinedSpacedAndHidden(t *testing.T) {
	table := tableOf(t, "a 1")
	for _, line := range []string{"defined a", "defined(a)"} {
		for _, names := range append(allSubsets("a", "defined", "z"), manyNames(impl.MaxTokens)) {
			slices.Sort(names)
			for spaces := range 1 << 6 {
				list := besides(t, "x"+" "+line+" y")
				for i := range list {
					list[i].Spaced = spaces>>i%2 == 1
					list[i].Hidden = names
				}
				want := []impl.Token{list[0], {Kind: aNumber, Text: "1", Spaced: list[1].Spaced}, list[len(list)-1]}
				wantReplaced(t, table, list, want)
				wantReplaced(t, table, list[1:], want[1:])
			}
		}
	}
	// A name is asked for, also where it is hidden.
	wantReplaced(t, table, []impl.Token{beside(aName, "defined"), withNames(beside(aName, "a"), "a")}, besides(t, "1"))
	wantCondition(t, table, []impl.Token{beside(aName, "defined"), withNames(beside(aName, "a"), "a")}, true)
}

// A list of exactly MaxTokens tokens, and of more.
func TestReplaceDefinedManyTokens(t *testing.T) {
	table := tableOf(t, "a 1")
	short, long := tokensOf(t, "defined a"), tokensOf(t, "defined(a)")
	wantReplaced(t, table, slices.Repeat(short, 30), manyTokens(beside(aNumber, "1"), 30))
	wantReplaced(t, table, slices.Repeat(long, 15), manyTokens(beside(aNumber, "1"), 15))
	wantReplaced(t, nil, slices.Repeat(long, 15), manyTokens(beside(aNumber, "0"), 15))
	for count := range impl.MaxTokens + 1 {
		x := manyTokens(beside(aName, "x"), count)
		wantReplaced(t, table, x, x)
		if count+4 <= impl.MaxTokens {
			wantReplaced(t, table, append(slices.Clone(x), long...), append(slices.Clone(x), beside(aNumber, "1")))
			wantReplaced(t, table, append(slices.Clone(long), x...), append(besides(t, "1"), x...))
		}
		if count < impl.MaxTokens {
			wantNotReplaced(t, table, append(slices.Clone(x), beside(aName, "defined")))
		}
	}
	// Too many tokens are not counted after they were replaced.
	wantNotReplaced(t, table, append(slices.Repeat(short, 30), beside(aName, "x")))
	wantNotReplaced(t, table, slices.Repeat(short, 31))
	wantNotReplaced(t, table, slices.Repeat(long, 16))
	wantNotReplaced(t, table, manyTokens(beside(aName, "x"), impl.MaxTokens+1))
	wantNoCondition(t, table, append(manyTokens(beside(aMark, "!"), impl.MaxTokens-1), short...))
	wantCondition(t, table, append(manyTokens(beside(aMark, "!"), impl.MaxTokens-2), short...), true)
	wantNoCondition(t, table, append(manyTokens(beside(aMark, "-"), impl.MaxTokens), beside(aNumber, "1")))
}

// Promises 10 and 67: all short lists of some tokens.
func TestConditionOfShortLists(t *testing.T) {
	tables := [][]impl.Macro{nil, tableOf(t, "a 1"), tableOf(t, "a b", "b 0"), tableOf(t, "a defined", "b")}
	tokens := make(map[string]impl.Token)
	pieces := []string{"defined", "a", "b", "(", ")", "1", "!", "+"}
	for _, piece := range pieces {
		tokens[piece] = besides(t, piece)[0]
	}
	replaced, conditions := make([]int, 2), make([]int, 3)
	for number, texts := range append(listsOf(pieces, 5), listsOf(pieces[:5], 6)...) {
		var list []impl.Token
		for i, text := range texts {
			token := tokens[text]
			token.Spaced = number>>i%2 == 1
			list = append(list, token)
		}
		for _, table := range tables {
			replaced[oneOf(checkReplaced(t, table, list))]++
			conditions[checkCondition(t, table, list)]++
		}
	}
	if slices.Min(replaced) < 20000 || slices.Min(conditions) < 500 {
		t.Errorf("defined is replaced as often as %v, and the conditions are as often as %v", replaced, conditions)
	}
}

// Promise 67: ordinary conditions.
func TestConditionOfOrdinary(t *testing.T) {
	table := tableOf(t, "a 1", "b", "c 2", "f(x) (x > 1)", "y z", "zero 0")
	wantConditions(t, table, true,
		"1", "a", "c", "-1", "1000000", "-a", "!zero", "a == 1", "c - a", "a + c == 3", "c * c == 4", "a ? c : zero", "f(2)", "f(c)", "f(3) && f(c)", "!f(1)", "!f(y)", "(f(c))", "a < c",
		"defined a", "defined b", "defined(f)", "!defined d", "!defined(d)", "defined a && !defined d", "defined a + defined c == 2", "defined zero", "defined(y)", "defined(d) || a", "defined a ? c : zero", "f(defined a + 1)", "-defined a")
	wantConditions(t, table, false,
		"0", "zero", "!a", "a - 1", "a == 2", "y", "z", "d", "-0", "-zero", "!c", "f(1)", "f(a)", "f(d)", "f(y)", "1 - a", "a > c", "0 && a", "d || y", "a ? zero : c", "f",
		"defined d", "defined(d)", "defined z", "defined x", "!defined a", "!defined(b)", "defined a && defined d", "defined d ? a : zero", "f(defined a)")
}

// Promise 67: names that are not defined are 0, also those that only the expansion brings.
func TestConditionOfNamesNotDefined(t *testing.T) {
	table := tableOf(t, "a b", "b c", "d defined", "e e", "f(x) x", "g(x) q", "h(x,y) x ## y", "i f", "l ( m )", "o 1 + q")
	wantConditions(t, table, false, "q", "a", "b", "c", "a && 1", "e", "f(q)", "f(a)", "g(1)", "h(q,1)", "h(q,)", "f", "i", "l", "a + b + c", "a == 1", "q == 1", "1 == q", "-q", "d", "d + q", "h(de,fined)", "d && 1", "f(d)", "f(f)")
	wantConditions(t, table, true, "!q", "!a", "a == 0", "a == q", "e == 0", "!e", "g(1) == 0", "!h(q,1)", "1 + a", "!l", "o", "o - q", "q ? 0 : 1", "h(1,2) == 12", "!d", "d == 0", "defined a", "!defined c", "!defined q", "defined d", "defined e", "!h(de,fined)")
	// Without macros all names are 0.
	for _, empty := range [][]impl.Macro{nil, {}} {
		wantConditions(t, empty, false, "q", "a", "a + b", "defined a", "defined(b) || a", "_", "abcdefghijkl", "a && !b")
		wantConditions(t, empty, true, "!q", "a == b", "!defined a", "1 || a", "!a && !b")
		wantNoConditions(t, empty, "f(1)", "a b", "defined", "a()")
	}
}

// Promise 67: defined is replaced before the expansion, and not again after it.
func TestConditionOfDefinedBeforeExpansion(t *testing.T) {
	table := tableOf(t, "a", "b 2", "d defined", "e() defined", "f(x) x", "g(x) defined x", "h(x) 1", "j(x,y) x ## y", "k defined b", "l(x) defined(x)")
	// The names behind defined are not expanded, not even to nothing.
	wantConditions(t, table, true, "defined a", "defined b", "defined(b)", "defined f", "defined (f)", "f(defined b)", "f(f(defined(b)))", "h(defined b)", "h(defined q)", "defined l", "j(defined a,2) == 12", "j(1,defined(q)) == 10", "f((defined b))", "h(1) == defined h", "defined e == 1")
	wantConditions(t, table, false, "defined zz", "f(defined q)", "j(defined q,defined q)", "f(defined(zz))", "defined defined", "f(defined defined)", "d", "e()", "j(def,ined)", "f(d)")
	// What the expansion brings is not asked for.
	wantNoConditions(t, table, "d b", "d(b)", "k", "g(b)", "l(b)", "e() b", "e()(b)", "f(d b)", "f(d) b", "j(def,ined) b", "f(k)", "d defined b")
	// Something else is behind defined, also if the argument is not used, or would be nothing, or a name only after the expansion.
	wantNoConditions(t, table, "h(defined)", "f(defined)", "defined f(b)", "defined e()", "f(defined b b)", "h(defined 1)", "h(defined,1)", "h(defined b", "defined", "1 || defined", "defined(f(b))", "defined j(a,a)")
	// A ( behind defined and its name does not make these a use.
	wantNoConditions(t, table, "defined f(1)", "defined(f)(1)", "defined q(1)", "defined(b)(b)", "defined(b) b b")
}

// Conditions that are none, as one of the steps is not possible.
func TestConditionOfFaults(t *testing.T) {
	table := tableOf(t, "a 1", "b", "f(x) x", "g(x,y) x + y", "n", "p + ## a", "q(x) x ## +", "t t1 t1", "zero 0")
	wantNoConditions(t, table, "defined", "defined(", "defined(a", "defined(a b)", "defined 1", "defined()", "1 defined", "a + defined", "1 / 0 defined")
	wantNoConditions(t, table, "f(", "f(1", "f(1,2)", "g(1)", "g()", "1 || f(", "p", "q(1)", "f(p)", "1 || p", "f(g(1))")
	wantNoConditions(t, table, "", "b", "n", "b n", "f()", "f(b)", "n n", "!b", "b + 1", "(b)", "g(,)", "g(1,)")
	wantNoConditions(t, table, "1 +", "1 1", "a a", "f(1) 1", "(1", "1)", `"1"`, `f("a")`, "1 = 1", "1, 2", "a ? 1", "1a", "1000001", "t", "#1", "a()", "defined a defined b", "defined a a")
	wantNoConditions(t, table, "1 / 0", "a / zero", "1 % q2", "1 / defined q2", "a / !a", "0 && 1 / 0", "1000000 + a", "1000000 * 2", "-1000000 - defined a", "1 ? 1 : 1 / 0")
	wantConditions(t, table, true, "f(1)", "g(1,0)", "g(1,-b 1) || 1", "g(b 1,1)", "n 1 n", "1 n", "f(n 1)", "1 b", "-n 1", "(1 n)")
	// A line that cannot be divided into tokens has none, which are no condition.
	list, _ := impl.TokensOf("@")
	wantNoCondition(t, table, list)
	wantNoCondition(t, nil, nil)
	wantNoCondition(t, nil, []impl.Token{})
}

// Promise 67: conditions that are nearly too long, and that are.
func TestConditionOfLimits(t *testing.T) {
	table := tableOf(t, "d 1 * 1", "m - - - - - - - - - -", "n", "t n n n n n n n n n")
	for _, c := range []struct {
		line string
		ok   bool
	}{
		{timesLine("m 1", 5, 1), true}, {timesLine("m - 1", 5, 9, 1), true}, {timesLine("m - 1", 5, 10, 1), false}, {timesLine("n 1", 59, 1), true}, {timesLine("t 1", 10, 1), true}, {timesLine("t n 1", 10, 1, 1), false}, {timesLine("t n 1", 9, 10, 1), true},
		{timesLine("- d", 57, 1), true}, {timesLine("- d", 58, 1), false}, {timesLine("- d n", 56, 1, 1), true}, {timesLine("- d n", 57, 1, 1), true}, {timesLine("- d n", 58, 1, 1), false},
	} {
		if c.ok {
			wantConditions(t, table, true, c.line)
		} else {
			wantNoConditions(t, table, c.line)
		}
	}
	// A list of exactly MaxTokens tokens with ! and parentheses, and the numbers in place of defined leave more room for expansion.
	wantCondition(t, table, inParentheses(append(manyTokens(beside(aMark, "!"), 56), beside(aName, "q")), "!"), true)
	list := slices.Concat(manyTokens(beside(aMark, "-"), 55), besides(t, "defined(d)"))
	wantCondition(t, table, list, true)
	wantCondition(t, table, append(list, beside(aName, "n")), true)
	wantNoCondition(t, table, append(list, besides(t, "n n")...))
	wantCondition(t, table, append(manyTokens(beside(aMark, "-"), 54), besides(t, "defined(d) * d")...), true)
	wantNoCondition(t, table, append(manyTokens(beside(aMark, "-"), 55), besides(t, "defined(d) * d")...))
	wantCondition(t, table, append(manyTokens(beside(aMark, "-"), 55), besides(t, "defined d * d")...), true)
	wantNoCondition(t, table, append(manyTokens(beside(aMark, "-"), 56), besides(t, "defined d * d")...))
}

// The numbers of Hidden names: what is expanded to tokens that are not valid has no value.
func TestConditionOfManyHidden(t *testing.T) {
	table := tableOf(t, "a 1", "f(x) x", "n")
	full := withNames(beside(aName, "a"), manyNames(impl.MaxTokens)...)
	nearly := withNames(beside(aName, "a"), manyNames(impl.MaxTokens-1)...)
	wantCondition(t, table, []impl.Token{nearly}, true)
	wantNoCondition(t, table, []impl.Token{full})
	wantCondition(t, table, []impl.Token{beside(aName, "defined"), full}, true)
	wantCondition(t, table, []impl.Token{withNames(beside(aName, "defined"), manyNames(impl.MaxTokens)...), full}, true)
	wantCondition(t, table, append([]impl.Token{withNames(beside(aName, "n"), manyNames(impl.MaxTokens)...)}, nearly), true)
	wantCondition(t, table, []impl.Token{withNames(beside(aNumber, "1"), manyNames(impl.MaxTokens)...)}, true)
	wantNoCondition(t, table, besidesFull(t, "f(1)", 2))
	wantNoCondition(t, table, []impl.Token{withNames(beside(aName, "a"), "a"), beside(aMark, "/"), withNames(beside(aName, "a"), "a")})
	// A name that is hidden is not expanded, and so it is 0, though its macro is 1.
	wantCondition(t, table, []impl.Token{withNames(beside(aName, "a"), "a")}, false)
	wantCondition(t, table, []impl.Token{withNames(beside(aName, "a"), "b")}, true)
}

// Tables that are not valid, for all tokens.
func TestConditionOfInvalidTables(t *testing.T) {
	tables := [][]impl.Macro{macrosOf(t, "b", "a"), macrosOf(t, "a", "a"), macrosOf(t, "a", "b", "a"), macrosOf(t, "a", "B"), manyMacros(impl.MaxMacros + 1), append(manyMacros(2), impl.Macro{})}
	for _, wrong := range wrongMacros() {
		tables = append(tables, []impl.Macro{wrong}, append(macrosOf(t, "A"), wrong), append([]impl.Macro{wrong}, macrosOf(t, "z")...))
	}
	for _, table := range tables {
		wantTableValid(t, table, false)
		for _, list := range [][]impl.Token{nil, {}, besides(t, "a"), besides(t, "1"), besides(t, "x"), tokensOf(t, "defined a"), tokensOf(t, "defined(zz)"), tokensOf(t, "!defined A"), tokensOf(t, "defined"), {{}}} {
			wantNotReplaced(t, table, list)
			wantNoCondition(t, table, list)
		}
	}
	wantReplaced(t, manyMacros(impl.MaxMacros), tokensOf(t, "defined n00 x"), tokensOf(t, "1 x"))
	wantCondition(t, manyMacros(impl.MaxMacros), tokensOf(t, "defined n00"), true)
}

// Tokens that are not valid, anywhere, also where they would be replaced.
func TestConditionOfInvalidTokens(t *testing.T) {
	for _, table := range [][]impl.Macro{nil, tableOf(t, "a 1", "f(x) 1", "n"), tableOf(t, "p + ## a")} {
		for _, wrong := range wrongTokens() {
			for _, line := range []string{"", "1", "a", "defined a", "defined(a)", "f(1)", "1 + defined a", "defined a && !defined(b)", "1 / 0"} {
				list := besides(t, line)
				for i := range len(list) + 1 {
					with := slices.Insert(slices.Clone(list), i, wrong)
					wantNotReplaced(t, table, with)
					wantNoCondition(t, table, with)
				}
				for i := range list {
					with := slices.Clone(list)
					with[i] = wrong
					wantNotReplaced(t, table, with)
					wantNoCondition(t, table, with)
				}
			}
		}
		for _, token := range append(allSorts(), beside(aName, "n"), beside(aName, "defined"), hiding("a")) {
			wantNotReplaced(t, table, manyTokens(token, impl.MaxTokens+1))
			wantNotReplaced(t, table, manyTokens(token, 2*impl.MaxTokens))
			wantNoCondition(t, table, manyTokens(token, impl.MaxTokens+2))
		}
		// A word of another kind that has the text defined is no token.
		for _, kind := range []int{aNumber, aText, aMark, 0, 5} {
			wantNotReplaced(t, table, []impl.Token{beside(kind, "defined"), beside(aName, "a")})
			wantNotReplaced(t, table, []impl.Token{beside(aName, "defined"), beside(kind, "a")})
		}
	}
}

// Promises 10 and 67: tokens, tables and Hidden names that are chosen in a fixed order.
func TestConditionOfAnotherWay(t *testing.T) {
	c := choices{seed: 6}
	body := []string{"x", "y", "1", "0", " + ", " ? ", " : ", "a", "b", "(", ")", "e()", "f(x)", " defined ", " ## ", " - 2", " && x", " || 1"}
	words := []string{" defined a", " defined(b)", " defined (q", " defined ", "a", "b", "n", "q", "c", "e()", "f(1)", "f(a", "g(a,1)", "1", "0", "(", "(", ")", ")", " + ", " - ", " == ", " && ", " || ", "!", " ? ", " : "}
	replaced, conditions := make([]int, 2), make([]int, 3)
	for range 30000 {
		table, list := c.table(body), c.tokens(words[:4+c.below(len(words)-3)])
		replaced[oneOf(checkReplaced(t, table, list))]++
		conditions[checkCondition(t, table, list)]++
	}
	if slices.Min(replaced) < 5000 || slices.Min(conditions) < 100 {
		t.Errorf("defined is replaced as often as %v, and the conditions are as often as %v", replaced, conditions)
	}
}

// Promise 67: values that are put together in a fixed order, with names of macros and defined in them.
func TestConditionOfTrees(t *testing.T) {
	c := choices{seed: 7}
	table := tableOf(t, "a 7", "b a - 7", "f(x) (x)", "g(x) x + 1", "k(x,y) x", "o -1", "s 1 - 1")
	words := strings.Fields("a b c o s f(2) f(0) f(b) g(1) g(o) k(1,2) k(s,1) defined(a) defined(b) defined(c) f(defined(a)) k(defined(q),defined(k)) f(f(a))")
	conditions := make([]int, 3)
	for range 20000 {
		line := c.tree(1+c.below(4)).line(0, c.below(3) == 0)
		for range c.below(4) {
			line = strings.Replace(line, []string{"a", "0", "1", "7"}[c.below(4)], words[c.below(len(words))], 1)
		}
		if list, ok := impl.TokensOf(line); ok {
			conditions[checkCondition(t, table, list)]++
		}
	}
	if slices.Min(conditions) < 3000 {
		t.Errorf("the conditions are as often as %v", conditions)
	}
}

// The general rules: arguments are not written to, results share no memory with them, and no state is kept.
func TestConditionsKeepArguments(t *testing.T) {
	for _, line := range []string{"", "x", "defined a", "x defined(a) y defined b", "1 + defined q", "defined", "a b defined 1", "f(a) && defined(f)"} {
		table := roomyTable(t, "a b + 1", "b", "f(x) x x#x a")
		list := roomyTokens(t, line)
		wantTable, wantList := wholeTable(table), wholeTokens(list)
		first, ok := impl.ReplaceDefined(table, list)
		holds, isCondition := impl.ConditionOf(table, list)
		want := copiedArguments([][]impl.Token{first})[0]
		changeWholeTokens(first)
		if !reflect.DeepEqual(wholeTable(table), wantTable) || !reflect.DeepEqual(wholeTokens(list), wantList) {
			t.Fatalf("for %q the table is now %v, and the tokens are %v", line, table, list)
		}
		wantCondition(t, tableOf(t, "q 1"), tokensOf(t, "defined q == q"), true)
		second, again := impl.ReplaceDefined(table, list)
		if stillHolds, still := impl.ConditionOf(table, list); stillHolds != holds || still != isCondition {
			t.Fatalf("ConditionOf %q is %v, %v, and was %v, %v before", line, stillHolds, still, holds, isCondition)
		}
		changeTable(table)
		changeWholeTokens(list)
		if ok != again || !sameTokens(second, want) {
			t.Fatalf("%q is replaced by %v, %v, and was by %v, %v before", line, second, again, want, ok)
		}
	}
}

// The general rules: the tokens of a result share no memory with each other, though given ones do.
func TestReplaceDefinedSharesNothing(t *testing.T) {
	table := roomyTable(t, "a b + b")
	names := append(make([]string, 0, 6), "p", "q")
	list := tokensOf(t, "x defined a y defined(c) z + 1")
	for i := range list {
		list[i].Hidden = names
	}
	whole, ok := impl.ReplaceDefined(table, list)
	if !ok || len(whole) != 7 {
		t.Fatalf("there are %v, %v", whole, ok)
	}
	for i := range whole {
		got, _ := impl.ReplaceDefined(table, list)
		changeWholeTokens(got[i : i+1 : i+1])
		got[i] = whole[i]
		if !sameTokens(got, whole) {
			t.Fatalf("token %d shares memory with another one: %v", i, got)
		}
	}
}
