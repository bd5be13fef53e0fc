package tests

import (
	"reflect"
	"slices"
	"strings"
	"testing"

	"loop.example/macroprocessor/impl"
)

// tableOf returns the table of the macros that lines define, whatever the order of the lines is.
func tableOf(t *testing.T, lines ...string) []impl.Macro {
	t.Helper()
	table := macrosOf(t, lines...)
	slices.SortFunc(table, func(a, b impl.Macro) int { return strings.Compare(a.Name, b.Name) })
	wantTableValid(t, table, true)
	return table
}

// wantExpanded checks Expand of tokens that can be expanded.
func wantExpanded(t *testing.T, table []impl.Macro, list []impl.Token, want []impl.Token) {
	t.Helper()
	got, fault := impl.Expand(table, list)
	if fault != impl.ExpandGood || !sameTokens(got, want) {
		t.Errorf("Expand(%v, %v) = %v, %v, want %v, %v", table, list, got, fault, want, impl.ExpandGood)
	}
}

// wantFault checks Expand of tokens that have a fault, or are not valid.
func wantFault(t *testing.T, table []impl.Macro, list []impl.Token, want int) {
	t.Helper()
	if got, fault := impl.Expand(table, list); fault != want || len(got) != 0 {
		t.Errorf("Expand(%v, %v) = %v, %v, want nothing and %v", table, list, got, fault, want)
	}
}

// wantNoLine checks ExpandLine of a line that cannot be expanded.
func wantNoLine(t *testing.T, table []impl.Macro, line string) {
	t.Helper()
	if got, ok := impl.ExpandLine(table, line); ok || got != "" {
		t.Errorf("ExpandLine(%v, %q) = %q, %v, want nothing and false", table, line, got, ok)
	}
}

// bareTokens returns tokens without Hidden names.
func bareTokens(list []impl.Token) []impl.Token {
	return plainBody(list)
}

// checkExpansions checks Expand and ExpandLine of lines, and what there is in their place, with spaces where the tokens are Spaced.
func checkExpansions(t *testing.T, table []impl.Macro, cases [][2]string) {
	t.Helper()
	for _, c := range cases {
		want := tokensOf(t, c[1])
		got, fault := impl.Expand(table, tokensOf(t, c[0]))
		if fault != impl.ExpandGood || !sameTokens(bareTokens(got), want) {
			t.Errorf("%q is expanded to %v, %v, want %v", c[0], got, fault, want)
		}
		if line, ok := impl.ExpandLine(table, c[0]); !ok || line != printedLine(want) {
			t.Errorf("ExpandLine of %q = %q, %v, want %q, true", c[0], line, ok, printedLine(want))
		}
	}
}

// checkFaults checks Expand and ExpandLine of lines that have the same fault.
func checkFaults(t *testing.T, table []impl.Macro, fault int, lines ...string) {
	t.Helper()
	for _, line := range lines {
		got, is := impl.Expand(table, tokensOf(t, line))
		if is != fault || len(got) != 0 {
			t.Errorf("%q is expanded to %v, %v, want nothing and %v", line, got, is, fault)
		}
		wantNoLine(t, table, line)
	}
}

// namesTogether returns the names of all lists, ascending.
func namesTogether(lists ...[]string) []string {
	names := slices.Concat(lists...)
	slices.Sort(names)
	return slices.Compact(names)
}

// faultOf is a fault that ends all calls of expansionAnotherWay at once.
type faultOf int

// expansionAnotherWay is another way to expand: it calls itself for all tokens behind the first one, or behind what is in its place.
type expansionAnotherWay struct {
	table []impl.Macro
	steps int
}

// expandedAnotherWay expands valid tokens by a valid table in another way.
func expandedAnotherWay(table []impl.Macro, list []impl.Token) (expanded []impl.Token, fault int) {
	defer func() {
		if reason := recover(); reason != nil {
			expanded, fault = nil, int(reason.(faultOf))
		}
	}()
	way := expansionAnotherWay{table: table}
	return way.expand(list, 0), impl.ExpandGood
}

// expand returns tokens expanded, behind a number of tokens that are done.
func (w *expansionAnotherWay) expand(list []impl.Token, done int) []impl.Token {
	if len(list) > impl.MaxTokens || done > impl.MaxTokens {
		panic(faultOf(impl.ExpandLong))
	}
	if len(list) == 0 {
		return nil
	}
	first := list[0]
	at := slices.IndexFunc(w.table, func(m impl.Macro) bool { return m.Name == first.Text })
	isUse := at >= 0 && !slices.Contains(first.Hidden, first.Text)
	if isUse && w.table[at].Function {
		isUse = len(list) > 1 && list[1].Text == "("
	}
	if !isUse {
		return append([]impl.Token{first}, w.expand(list[1:], done+1)...)
	}
	put, rest := w.put(w.table[at], list)
	return w.expand(slices.Concat(put, rest), done)
}

// put returns what is in place of the use of a macro, and the tokens behind it.
func (w *expansionAnotherWay) put(m impl.Macro, list []impl.Token) ([]impl.Token, []impl.Token) {
	w.steps++
	if w.steps > impl.MaxSteps {
		panic(faultOf(impl.ExpandLong))
	}
	hidden, rest := slices.Clone(list[0].Hidden), list[1:]
	var raw, ready [][]impl.Token
	if m.Function {
		args, behind, ok := argumentsAnotherWay(list, 1)
		if len(m.Params) == 0 && len(args) == 1 && len(args[0]) == 0 {
			args = nil
		}
		if !ok || len(args) != len(m.Params) {
			panic(faultOf(impl.ExpandArgs))
		}
		for _, arg := range args {
			ready = append(ready, w.expand(arg, 0))
		}
		end := list[behind-1]
		hidden = slices.DeleteFunc(hidden, func(name string) bool { return !slices.Contains(end.Hidden, name) })
		raw, rest = args, list[behind:]
	}
	put, ok := substitutedAnotherWay(m, raw, ready)
	for i := range put {
		put[i].Hidden = namesTogether(put[i].Hidden, hidden, []string{m.Name})
		put[i].Spaced = i == 0 && list[0].Spaced || i > 0 && put[i].Spaced
	}
	if !ok || mostHidden(raw...) > impl.MaxTokens || mostHidden(ready...) > impl.MaxTokens {
		panic(faultOf(impl.ExpandPaste))
	}
	return put, rest
}

// mostHidden returns how many names are in Hidden of a token at most.
func mostHidden(lists ...[]impl.Token) int {
	most := 0
	for _, list := range lists {
		for _, token := range list {
			most = max(most, len(token.Hidden))
		}
	}
	return most
}

// checkExpanded compares Expand with the other way, and returns the fault.
func checkExpanded(t *testing.T, table []impl.Macro, list []impl.Token) int {
	t.Helper()
	want, wantFault := expandedAnotherWay(table, list)
	got, fault := impl.Expand(table, list)
	if fault != wantFault || !sameTokens(got, want) {
		t.Fatalf("Expand(%v, %v) = %v, %v, want %v, %v", table, list, got, fault, want, wantFault)
	}
	for _, token := range got {
		// That there are too many names in Hidden is the one reason for which a token may not be valid.
		isFull := len(token.Hidden) > impl.MaxTokens && slices.Equal(token.Hidden, namesTogether(token.Hidden))
		if !impl.TokenValid(token) && !(isFull && impl.TokenValid(withNames(token))) {
			t.Fatalf("Expand(%v, %v) has the token %+v, which is not valid", table, list, token)
		}
	}
	return fault
}

func TestConstantsOfExpansion(t *testing.T) {
	got := []int{impl.ExpandGood, impl.ExpandArgs, impl.ExpandPaste, impl.ExpandLong, impl.MaxSteps}
	if want := []int{0, 1, 2, 3, 100}; !slices.Equal(got, want) {
		t.Errorf("the constants are %v, want %v", got, want)
	}
}

// Promises 8 and 64: ordinary lines have the same tokens with an empty table.
func TestExpandLineEmptyTable(t *testing.T) {
	for _, table := range [][]impl.Macro{nil, {}} {
		for _, line := range []string{"", " ", "a", "  a  ", "f(1)", "f(", ")", "f (x , y", "#define f(x) x + x", "a ## b", `"a" "b"`, "defined(a)", "a.b;", "1 + + 1", "x==1 ? y : !z"} {
			checkExpansions(t, table, [][2]string{{line, line}})
		}
		// A comment is no comment here, and there is none in the line that comes out.
		for _, c := range [][2]string{{"// a", "/ / a"}, {"a/*b", "a/ *b"}, {"/* a */", "/ * a */"}} {
			if line, ok := impl.ExpandLine(table, c[0]); !ok || line != c[1] {
				t.Errorf("ExpandLine of %q = %q, %v, want %q, true", c[0], line, ok, c[1])
			}
		}
		for _, line := range []string{"@", "a\\", `"a`, "a\n", "\u00e9", "abcdefghijklm", strings.Repeat("(", impl.MaxTokens+1), strings.Repeat(" ", impl.MaxLine+1)} {
			wantNoLine(t, table, line)
		}
	}
}

// checkLineStays checks what promise 64 says of a line and an empty table, and reports whether it can be expanded.
func checkLineStays(t *testing.T, line string) bool {
	t.Helper()
	got, ok := impl.ExpandLine(nil, line)
	list, valid := impl.TokensOf(line)
	if !valid || len(printedLine(list)) > impl.MaxLine {
		if ok || got != "" {
			t.Fatalf("ExpandLine(nil, %q) = %q, %v, want nothing and false", line, got, ok)
		}
		return false
	}
	again, isLine := impl.TokensOf(got)
	if !ok || got != printedLine(list) || !impl.LineValid(got) || !isLine || !sameKindsAndTexts(again, list) {
		t.Fatalf("ExpandLine(nil, %q) = %q, %v, want %q, true", line, got, ok, printedLine(list))
	}
	return true
}

// Promise 64: all short lines of a few bytes.
func TestExpandLineShortLines(t *testing.T) {
	stay, refused := 0, 0
	for _, line := range linesOf("a1(\"\\/* ", 5) {
		if checkLineStays(t, line) {
			stay++
		} else {
			refused++
		}
	}
	if stay < 1000 || refused < 1000 {
		t.Errorf("%d lines stay, and %d are refused", stay, refused)
	}
}

// Promise 64: lines of exactly MaxLine bytes, and those that need a space more when they are printed.
func TestExpandLineLength(t *testing.T) {
	for _, table := range [][]impl.Macro{nil, tableOf(t, "n", "f(x) x")} {
		for _, line := range []string{textOf(200).Text, textOf(199).Text + "(", "(" + textOf(198).Text + ")", textOf(197).Text + "/ /"} {
			checkExpansions(t, table, [][2]string{{line, line}})
			wantNoLine(t, table, line+" ")
		}
		wantNoLine(t, table, textOf(198).Text+"//")
		wantNoLine(t, table, textOf(198).Text+"/*")
	}
	checkLineStays(t, strings.Repeat(" ", impl.MaxLine))
	checkLineStays(t, strings.Repeat("/", impl.MaxTokens))
}

// A line that would be too long with what macros put in is not possible, though its tokens are.
func TestExpandLineTooLong(t *testing.T) {
	text := textOf(197).Text
	checkExpansions(t, tableOf(t, "a xyz"), [][2]string{{text + "a", text + "xyz"}, {"a" + text, "xyz" + text}})
	checkExpansions(t, tableOf(t, "ab c"), [][2]string{{text + "ab", text + "c"}})
	for _, body := range []string{"wxyz", "x+yz", "(xy)", "x yz"} {
		table := tableOf(t, "a "+body)
		for _, line := range []string{text + "a", "a" + text} {
			wantNoLine(t, table, line)
			if got, fault := impl.Expand(table, tokensOf(t, line)); fault != impl.ExpandGood || len(got) == 0 {
				t.Errorf("with the body %q %q is expanded to %v, %v", body, line, got, fault)
			}
		}
	}
}

// Promise 8: without the name of a macro among them tokens stay as they are, Spaced and Hidden names too.
func TestExpandUsesNoMacros(t *testing.T) {
	tables := [][]impl.Macro{nil, {}, tableOf(t, "b c", "f(x) x", "n", "e()"), tableOf(t, "A 1", "aa 2", "a1 3", "x(y) 4"), manyMacros(impl.MaxMacros)}
	for _, table := range tables {
		for _, token := range allSorts() {
			for _, names := range [][]string{nil, {"a"}, {"b", "c", "zz"}, manyNames(impl.MaxTokens)} {
				for _, count := range []int{1, 2, impl.MaxTokens} {
					list := manyTokens(withNames(token, names...), count)
					wantExpanded(t, table, list, list)
					for i := range list {
						list[i].Spaced = i%2 == 0
					}
					wantExpanded(t, table, list, list)
				}
			}
		}
		list := tokensOf(t, `  bb (f1) "f(n)" ff(n_, E) ((, "b" 1b ##`)
		wantExpanded(t, table, list, list)
	}
	// With an empty table no name is that of a macro.
	for _, line := range []string{"b", "f(1)", "f(", "n n n", "e()", "a ## b"} {
		wantExpanded(t, nil, tokensOf(t, line), tokensOf(t, line))
		wantExpanded(t, []impl.Macro{}, tokensOf(t, line), tokensOf(t, line))
	}
}

// Promises 8 and 64: there is nothing to do for no tokens, whatever the table is.
func TestExpandNoTokens(t *testing.T) {
	for _, table := range [][]impl.Macro{nil, {}, tableOf(t, "a 1"), tableOf(t, "e()", "f(x) x", "n"), manyMacros(impl.MaxMacros)} {
		wantExpanded(t, table, nil, nil)
		wantExpanded(t, table, []impl.Token{}, nil)
		checkExpansions(t, table, [][2]string{{"", ""}, {"   ", ""}})
	}
}

// A macro without Function is replaced by its body, whatever is behind it.
func TestExpandWithoutFunction(t *testing.T) {
	table := tableOf(t, "a 1", "b 2 + 3", "c b", "d c c", "n", "p (x) x", "z a##b # c")
	checkExpansions(t, table, [][2]string{
		{"a", "1"},
		{"b", "2 + 3"},
		{"c", "2 + 3"},
		{"d", "2 + 3 2 + 3"},
		{"n", ""},
		{"n n", ""},
		{"a+b", "1+2 + 3"},
		{"(a)", "(1)"},
		{"a(b)", "1(2 + 3)"},
		{"x a y", "x 1 y"},
		{"x n y", "x y"},
		{"a b c", "1 2 + 3 2 + 3"},
		{"p", "(x) x"},
		{"p(a)", "(x) x(1)"},
		{"z", "ab # 2 + 3"},
		{"aa a_ A 1a", "aa a_ A 1a"},
		{`"a" a`, `"a" 1`},
		{"a.a,a", "1.1,1"},
	})
}

// A macro with Function is replaced by its body, with arguments put in.
func TestExpandWithFunction(t *testing.T) {
	table := tableOf(t, "f(x) x + x", "g(x,y) y-x", "e() 7", "h(w,x,y,z) z y x w", "k(x) 1", "s(x) #x", "u(x,y) x##y")
	checkExpansions(t, table, [][2]string{
		{"f(1)", "1 + 1"},
		{"h(f(1),e(),h(1,2,3,4),k())", "1 4 3 2 1 7 1 + 1"},
		{"f(1 2)", "1 2 + 1 2"},
		{"f((1,2))", "(1,2) + (1,2)"},
		{"f(x)", "x + x"},
		{"f ( 1 )", "1 + 1"},
		{"x f(1) y", "x 1 + 1 y"},
		{"f(1)*f(2)", "1 + 1*2 + 2"},
		{"(f(1))", "(1 + 1)"},
		{"g(1,2)", "2-1"},
		{"g((1,2),(3))", "(3)-(1,2)"},
		{"g(y,x)", "x-y"},
		{"e()", "7"},
		{"e( )", "7"},
		{"e()+e()", "7+7"},
		{"h(1,2,3,4)", "4 3 2 1"},
		{"k(1)", "1"},
		{"k((1,2)) k( )", "1 1"},
		{"s(1 + x)", `"1 + x"`},
		{`s("a")`, `"\"a\""`},
		{"u(1,2)", "12"},
		{"u(x,1)", "x1"},
		{"u(<,=)", "<="},
	})
}

// With #define f(x) x + x the line f(1) comes out as 1 + 1.
func TestExpandLineOfDocument(t *testing.T) {
	table, _ := impl.Define(nil, macroOf(t, "f(x) x + x"))
	if line, ok := impl.ExpandLine(table, "f(1)"); !ok || line != "1 + 1" {
		t.Errorf("f(1) comes out as %q, %v", line, ok)
	}
}

// A macro that uses itself, or another one that uses it, is not expanded in what is in its place.
func TestExpandMacrosThatUseThemselves(t *testing.T) {
	table := tableOf(t, "a a", "b b + b", "c d", "d c", "p q r", "q r p", "r p q", "f(x) f(x)", "g(x) h(x) g", "h(x) g(x) h")
	checkExpansions(t, table, [][2]string{
		{"a", "a"},
		{"a a", "a a"},
		{"b", "b + b"},
		{"c", "c"},
		{"d", "d"},
		{"c d c", "c d c"},
		{"p", "p q p p r p"},
		{"q", "q r q q p q"},
		{"r", "r p r r q r"},
		{"f(1)", "f(1)"},
		{"f(f(1))", "f(f(1))"},
		{"f(a)", "f(a)"},
		{"f(f)", "f(f)"},
		{"g(1)", "g(1) h g"},
		{"h(1)", "h(1) g h"},
		{"f(c)", "f(c)"},
	})
	// A macro of its own name that is an argument is expanded before.
	checkExpansions(t, tableOf(t, "f(x) x + f"), [][2]string{{"f(f(1))", "1 + f + f"}, {"f(f)(1)", "f + f(1)"}})
	checkExpansions(t, tableOf(t, "a (a)", "f(x) x"), [][2]string{{"f(a)", "(a)"}, {"f(f(a))", "(a)"}})
}

// With a ) that is not in what is in place of a macro, its name may be expanded again.
func TestExpandAgain(t *testing.T) {
	table := tableOf(t, "f(x) x*g", "g(x) f(x)", "i(x) x", "j(x) j", "k i", "l m", "m(x) x l")
	checkExpansions(t, table, [][2]string{
		{"f(2)(9)", "2*9*g"},
		{"f(2)(9)(3)", "2*9*g(3)"},
		{"g(2)(9)", "2*g(9)"},
		{"i(i)(1)", "i(1)"},
		{"i(f)(1)", "1*g"},
		{"i(f(1))(2)", "1*2*g"},
		{"j(1)(2)(3)", "j(2)(3)"},
		{"k(1)(2)", "1(2)"},
		{"k(k)(1)", "i(1)"},
		{"l(1)(2)(3)", "1 m(2)(3)"},
		{"m(1)(2)", "1 m(2)"},
	})
}

// What is in place of a macro is gone through with what is behind it, so that both together may be the use of a macro.
func TestExpandWithWhatIsBehind(t *testing.T) {
	table := tableOf(t, "a f", "b f(", "c f(1", "d )", "f(x) [x]", "g(x,y) x-y", "h(x) g(x)", "k ,", "n", "o (")
	checkExpansions(t, table, [][2]string{
		{"a(1)", "[1]"},
		{"a (1)", "[1]"},
		{"b 1)", "[1]"},
		{"b(1))", "[(1)]"},
		{"c)", "[1]"},
		{"c 2)", "[1 2]"},
		{"c)c)", "[1][1]"},
		{"a a(1)", "f [1]"},
		{"h(1 k 2)", "1-2"},
		{"h(1 k(2))", "1-(2)"},
		{"a", "f"},
		// What is behind a name counts as it is, not as it is expanded.
		{"f n (1)", "f (1)"},
		{"f n(1)", "f(1)"},
		{"f o 1)", "f ( 1)"},
	})
	checkFaults(t, table, impl.ExpandArgs, "b", "c", "b 1 d", "f(1 d", "c d", "g(1 k 2)", "h(1)", "h(1 k 2 k 3)")
}

// A macro with Function without ( directly behind it is done.
func TestExpandFunctionWithoutParenthesis(t *testing.T) {
	table := tableOf(t, "a f", "e() 1", "f(x) [x]", "g(x,y) f x f y f", "k(x) x")
	checkExpansions(t, table, [][2]string{
		{"f", "f"},
		{"e", "e"},
		{"f f f", "f f f"},
		{"f + (1)", "f + (1)"},
		{"f)", "f)"},
		{"(f)(1)", "(f)(1)"},
		{"f [1]", "f [1]"},
		{`f "(" 1)`, `f "(" 1)`},
		{"f,(1)", "f,(1)"},
		{"a a", "f f"},
		{"f f(1)", "f [1]"},
		{"f(f)", "[f]"},
		{"e e() e", "e 1 e"},
		{"g(1,2)", "f 1 f 2 f"},
		{"g((1),(2))", "[1] [2] f"},
		{"k(f)(1)", "[1]"},
		{"k(f) (1)", "[1]"},
		{"k(k)(1)", "k(1)"},
		{"k(f)", "f"},
	})
}

// The ) behind the arguments is missing.
func TestExpandNoEnd(t *testing.T) {
	table := tableOf(t, "a f(", "e() 1", "f(x) x", "g(x,y) x y")
	checkFaults(t, table, impl.ExpandArgs,
		"f(", "e(", "g(", "f((", "f(1", "f(()", "f((1)", "f(1,2", "g(1,2", "1 f(", "f(1) f(", "f(f(1)", "f(f(", "g(1,f(2)",
		`f(")"`, "e(]", "f([1]", "a", "a a", "a 1", "x y a", "f(g(1,2)", "f(1) + g((1),(2)")
	// An argument has its own tokens alone: what is missing there is not taken from behind it.
	checkFaults(t, table, impl.ExpandArgs, "f(a)", "f(a)1)", "f(a 1)", "g(1,a)", "g(a,1)")
	checkExpansions(t, table, [][2]string{{"a)", ""}, {"a 1)", "1"}, {"a(1))", "(1)"}})
}

// The arguments are not as many as the parameters.
func TestExpandArgumentsDoNotFit(t *testing.T) {
	table := tableOf(t, "a f(1,", "c ,", "e() 1", "f(x) x", "g(x,y) x y", "h(x,y,z) y", "i(w,x,y,z) y")
	checkFaults(t, table, impl.ExpandArgs,
		"f(1,2)", "f(,)", "f(,,)", "f((1),2)", "e(1)", "e(,)", "e(())", "e(1,2)", "g()", "g(1)", "g((1,2))", "g(1,2,3)", "g(,,)",
		"h()", "h(,)", "h(,,,)", "i()", "i(,,)", "i(,,,,)", "i(1,2,3,4,5)", "1 f(,)", "f(1) f(,)", "f(f(1,2))", "f(e(1))", "a)", "a 2)", "g(1 c 2)", `g("1,2")`, "e(e())")
	checkExpansions(t, table, [][2]string{
		{"f()", ""}, {"g(,)", ""}, {"h(,,)", ""}, {"i(,,,)", ""}, {"e()", "1"}, {"f((1,2))", "(1,2)"}, {"f([1)", "[1"},
		{"g((,),(,))", "(,) (,)"}, {"h(1,2,3)", "2"}, {"i(1,2,3,4)", "3"}, {`f("1,2")`, `"1,2"`}, {"f(1 c 2)", "1 , 2"}, {"f(e())", "1"},
	})
}

// Arguments without tokens, and those that have none when they are expanded.
func TestExpandArgumentsWithoutTokens(t *testing.T) {
	table := tableOf(t, "e()", "f(x) [x]", "g(x,y) x+y", "k(x) x", "n", "s(x) #x", "u(x,y) (x##y)", "v(x) x x ## 1 #x")
	checkExpansions(t, table, [][2]string{
		{"f()", "[]"},
		{"f( )", "[]"},
		{"f(n)", "[]"},
		{"f(n n)", "[]"},
		{"f(e())", "[]"},
		{"f(k())", "[]"},
		{"f(k(n))", "[]"},
		{"g(,)", "+"},
		{"g(1,)", "1+"},
		{"g(,1)", "+1"},
		{"g(n,n)", "+"},
		{"k()", ""},
		{"k(k(k()))", ""},
		{"(k())", "()"},
		{"s()", `""`},
		{"s(n)", `"n"`},
		{"u(,)", "()"},
		{"u(1,)", "(1)"},
		{"u(,1)", "(1)"},
		{"v(n)", `n1 "n"`},
		{"v()", `1 ""`},
	})
}

// An argument is expanded on its own: neither what is before it nor what is behind it counts.
func TestExpandArgumentsOnTheirOwn(t *testing.T) {
	table := tableOf(t, "a f", "c 1 + 1", "f(x) [x]", "g(x,y) x y", "k(x) x x", "n", "q(x,y) x(y)")
	checkExpansions(t, table, [][2]string{
		{"f(c)", "[1 + 1]"},
		{"f(f(c))", "[[1 + 1]]"},
		{"f(f(f(n)))", "[[[]]]"},
		{"k(c)", "1 + 1 1 + 1"},
		{"k(k(1))", "1 1 1 1"},
		{"g(c,c)", "1 + 1 1 + 1"},
		{"g(f,(1))", "[1]"},
		{"g(a,(1))", "[1]"},
		{"g(f(1),2)", "[1] 2"},
		{"g(f(c),f(n))", "[1 + 1] []"},
		{"q(f,c)", "[1 + 1]"},
		{"q(a,1)", "[1]"},
		{"q(q,1)", "q(1)"},
		{"q(n,1)", "(1)"},
	})
}

// Beside ## and behind # arguments are put in as they are.
func TestExpandRawArguments(t *testing.T) {
	table := tableOf(t, "c 1 + 1", "cd 5", "f(x) [x]", "n", "r(x) d ## x x ## d #x x", "s(x) #x", "u(x,y) x##y")
	checkExpansions(t, table, [][2]string{
		{"r(c)", `dc 5 "c" 1 + 1`},
		{"r(n)", `dn nd "n"`},
		{"r()", `d d ""`},
		{"s(c)", `"c"`},
		{"s(f(c) n)", `"f(c) n"`},
		{"s(s(c))", `"s(c)"`},
		{"u(c,d)", "5"},
		{"u(d,c)", "dc"},
		// What is not pasted itself, but stands there, too, is expanded with what is behind the place.
		{"u(c 1,2)", "1 + 1 12"},
		{"u(1,2 c)", "12 1 + 1"},
		{"u(,c)", "1 + 1"},
		{"u(c,)", "1 + 1"},
		{"u(n,n)", "nn"},
		{"u(f,)(1)", "[1]"},
		{"u(c,u(c,d))", "cu(1 + 1,d)"},
		{"f(u(c,d))", "[5]"},
	})
}

// Arguments are expanded also where the body has no place for them as they are then.
func TestExpandArgumentsThatAreNotPutIn(t *testing.T) {
	table := tableOf(t, "f(x) x", "k(x) 1", "p + ## a", "s(x) #x", "u(x,y) x ## y")
	checkFaults(t, table, impl.ExpandArgs, "k(f()f(1,2))", "k(f(,))", "s(f(,))", "u(f(,),1)", "u(1,f(,))", "k(k(k(f(,))))")
	checkFaults(t, table, impl.ExpandPaste, "k(p)", "s(p)", "u(p,1)", "u(1,p)", "k(s(p))")
	checkExpansions(t, table, [][2]string{{"k(f())", "1"}, {"s(f(1))", `"f(1)"`}})
}

// What Substitute cannot put in is a fault, wherever it is.
func TestExpandPasteNotPossible(t *testing.T) {
	table := tableOf(t, "p + ## a", "q() 1 ## +", "s(x) #x", "u(x,y) x##y", "v(x,y) 1 x##y 2", "w p")
	checkFaults(t, table, impl.ExpandPaste, "p", "1 p", "p 1", "(p)", "q()", "u(+,a)", "u(a,+)", "u(1,(2))", "u((1),2)", "u(1 +,2)", `u("a","b")`, "v(/,/)", "v(/,*)", "w", "u(abcdef,ghijklm)", "u(p,p) p")
	checkExpansions(t, table, [][2]string{{"u(+,)", "+"}, {"u(,(2))", "(2)"}, {"v(,)", "1 2"}, {"u(abcdef,ghijkl)", "abcdefghijkl"}, {"q", "q"}})
	// A text of exactly MaxLine bytes, and one that would be longer.
	fits := []impl.Token{textOf(196)}
	use := func(arg []impl.Token) []impl.Token {
		return slices.Concat([]impl.Token{beside(aName, "s"), beside(aMark, "(")}, arg, []impl.Token{beside(aMark, ")")})
	}
	wantExpanded(t, table, use(fits), []impl.Token{withNames(beside(aText, quoted(fits[0].Text)), "s")})
	wantFault(t, table, use([]impl.Token{textOf(197)}), impl.ExpandPaste)
	wantFault(t, table, use(append(fits, beside(aMark, "("), beside(aMark, ")"))), impl.ExpandPaste)
}

// The first token of what is in place of a macro is Spaced as the token was, and all others as they were.
func TestExpandSpaced(t *testing.T) {
	table := tableOf(t, "a (1 2", "b a", "c +b+", "f(x) x", "g(x) <x>", "n", "u(x,y) x ## y")
	checkExpansions(t, table, [][2]string{
		{"a", "(1 2"},
		{" a", " (1 2"},
		{"x a", "x (1 2"},
		{"x+a", "x+(1 2"},
		{"x b", "x (1 2"},
		{"x+b", "x+(1 2"},
		{"x c", "x +(1 2+"},
		{"a)", "(1 2)"},
		{"a )", "(1 2 )"},
		{"x f( 1 2 )", "x 1 2"},
		{"(f( 1  2 ))", "(1 2)"},
		{"(f ( 1 2))", "(1 2)"},
		{"( f(1 2) )", "( 1 2 )"},
		{"f( a)", "(1 2"},
		{" f(a)", " (1 2"},
		{"x g( 1 )", "x <1>"},
		{"x+g( a )", "x+<(1 2>"},
		{"x n+", "x+"},
		{"x n +", "x +"},
		{"n x", " x"},
		{" n+", "+"},
		{"x f()+", "x+"},
		{"x f() +", "x +"},
		{"(f(f(f( 1 ))))", "(1)"},
		{"x u( 1 , 2 )", "x 12"},
		{"x+u( , 2 )", "x+2"},
		{"x u(,2)", "x 2"},
	})
	// Side by side, without a space between them, tokens stay so.
	list := []impl.Token{beside(aName, "a"), beside(aName, "f"), beside(aMark, "("), apart(aNumber, "1"), beside(aMark, ")"), beside(aName, "a")}
	got, fault := impl.Expand(table, list)
	want := append(append(tokensOf(t, "(1 2"), beside(aNumber, "1")), tokensOf(t, "(1 2")...)
	if fault != impl.ExpandGood || !sameTokens(bareTokens(got), want) {
		t.Errorf("Expand(%v) = %v, %v, want %v", list, got, fault, want)
	}
}

// All tokens in place of a macro have the Hidden names of its token, and its own name.
func TestExpandHidden(t *testing.T) {
	table := tableOf(t, "a b + 1", "b a", "c 2 b")
	a, b, plus, one, two := beside(aName, "a"), beside(aName, "b"), apart(aMark, "+"), apart(aNumber, "1"), apart(aNumber, "2")
	wantExpanded(t, table, []impl.Token{a}, []impl.Token{withNames(a, "a", "b"), withNames(plus, "a"), withNames(one, "a")})
	wantExpanded(t, table, []impl.Token{b}, []impl.Token{withNames(b, "a", "b"), withNames(plus, "a", "b"), withNames(one, "a", "b")})
	wantExpanded(t, table, []impl.Token{withNames(b, "Z", "aa")}, []impl.Token{withNames(b, "Z", "a", "aa", "b"), withNames(plus, "Z", "a", "aa", "b"), withNames(one, "Z", "a", "aa", "b")})
	c, spacedA, spacedB := apart(aName, "c"), apart(aName, "a"), apart(aName, "b")
	names := []string{"a", "b", "c"}
	wantExpanded(t, table, []impl.Token{c}, []impl.Token{withNames(two, "c"), withNames(spacedB, names...), withNames(plus, names...), withNames(one, names...)})
	names = []string{"A", "a", "b", "c", "zz"}
	wantExpanded(t, table, []impl.Token{withNames(c, "A", "zz")}, []impl.Token{withNames(two, "A", "c", "zz"), withNames(spacedB, names...), withNames(plus, names...), withNames(one, names...)})
	wantExpanded(t, table, []impl.Token{withNames(c, "a")}, []impl.Token{withNames(two, "a", "c"), withNames(spacedA, "a", "b", "c")})
	wantExpanded(t, table, []impl.Token{withNames(c, "b")}, []impl.Token{withNames(two, "b", "c"), withNames(spacedB, "b", "c")})
	wantExpanded(t, table, []impl.Token{withNames(c, "c")}, []impl.Token{withNames(c, "c")})
	// What is behind the place keeps its own names.
	behind := withNames(apart(aMark, "("), "a", "x")
	wantExpanded(t, table, []impl.Token{withNames(b, "a"), behind}, []impl.Token{withNames(a, "a", "b"), behind})
}

// A token whose own name is in its Hidden is done, whatever is behind it; other names there do not matter, nor those of other tokens.
func TestExpandHiddenNames(t *testing.T) {
	table := tableOf(t, "a 1", "f(x) x", "n")
	a, f, n := beside(aName, "a"), beside(aName, "f"), beside(aName, "n")
	arg := []impl.Token{beside(aMark, "("), beside(aNumber, "2"), beside(aMark, ")")}
	for _, names := range [][]string{{"a", "f", "n"}, {"Z", "a", "f", "n", "z"}} {
		for _, token := range []impl.Token{a, f, n} {
			list := append([]impl.Token{withNames(token, names...)}, arg...)
			wantExpanded(t, table, list, list)
			wantExpanded(t, table, list[:1], list[:1])
		}
	}
	wantExpanded(t, table, []impl.Token{withNames(a, "f", "n"), withNames(a, "a")}, []impl.Token{withNames(beside(aNumber, "1"), "a", "f", "n"), withNames(a, "a")})
	wantExpanded(t, table, []impl.Token{withNames(n, "a", "f")}, nil)
	// The names of what is in the parentheses, and of ( itself, do not matter.
	list := []impl.Token{f, withNames(beside(aMark, "("), "f"), withNames(beside(aNumber, "2"), "f", "g"), beside(aMark, ")")}
	wantExpanded(t, table, list, []impl.Token{withNames(beside(aNumber, "2"), "f", "g")})
	list = []impl.Token{f, beside(aMark, "("), withNames(a, "a"), a, beside(aMark, ")")}
	wantExpanded(t, table, list, []impl.Token{withNames(a, "a", "f"), withNames(beside(aNumber, "1"), "a", "f")})
	// With an argument that is not to be expanded its fault is none.
	list = []impl.Token{f, beside(aMark, "("), withNames(f, "f"), beside(aMark, "("), beside(aMark, ","), beside(aMark, ")"), beside(aMark, ")")}
	if got, fault := impl.Expand(table, list); fault != impl.ExpandGood || len(got) != 4 {
		t.Errorf("Expand(%v) = %v, %v", list, got, fault)
	}
}

// With Function the names of the token count only if the ) has them, too, and its tokens keep their own.
func TestExpandHiddenOfFunction(t *testing.T) {
	table := tableOf(t, "f(x) x + y", "s(x) #x", "u(x,y) x##y z")
	subsets := allSubsets("A", "e", "g", "z")
	for _, first := range subsets {
		for _, last := range subsets {
			var both []string
			for _, name := range first {
				if slices.Contains(last, name) {
					both = append(both, name)
				}
			}
			with := func(names ...string) []string { return namesTogether(both, names) }
			use := func(name string, arg ...impl.Token) []impl.Token {
				open, end := withNames(beside(aMark, "("), "A", "p"), withNames(beside(aMark, ")"), last...)
				return slices.Concat([]impl.Token{withNames(beside(aName, name), first...), open}, arg, []impl.Token{end})
			}
			one, comma, two := withNames(beside(aName, "x"), "d", "e", "h"), withNames(beside(aMark, ","), "m"), withNames(beside(aNumber, "2"), "e", "h", "k")
			wantExpanded(t, table, use("f", one), []impl.Token{withNames(one, with("d", "e", "f", "h")...), withNames(apart(aMark, "+"), with("f")...), withNames(apart(aName, "y"), with("f")...)})
			wantExpanded(t, table, use("s", one), []impl.Token{withNames(beside(aText, `"x"`), with("s")...)})
			wantExpanded(t, table, use("u", one, comma, two), []impl.Token{withNames(beside(aName, "x2"), with("e", "h", "u")...), withNames(apart(aName, "z"), with("u")...)})
		}
	}
}

// besidesFull returns the tokens of a line, one of which has MaxTokens names in Hidden.
func besidesFull(t *testing.T, line string, at int) []impl.Token {
	t.Helper()
	list := besides(t, line)
	list[at].Hidden = manyNames(impl.MaxTokens)
	return list
}

// fullNames returns MaxTokens names, and further ones, ascending.
func fullNames(names ...string) []string {
	return namesTogether(manyNames(impl.MaxTokens), names)
}

// Promises 8 and 64: how many names are in Hidden of a token that is put in is no reason for a fault.
func TestExpandHiddenMany(t *testing.T) {
	table := tableOf(t, "a b", "b 1", "c d 2", "e() 7", "f(x) x", "g f", "k(x) 2", "n", "s(x) #x", "u(x,y) x##y")
	one, two := beside(aNumber, "1"), beside(aNumber, "2")
	wantExpanded(t, table, besidesFull(t, "a", 0), []impl.Token{withNames(one, fullNames("a", "b")...)})
	wantExpanded(t, table, besidesFull(t, "b", 0), []impl.Token{withNames(one, fullNames("b")...)})
	wantExpanded(t, table, besidesFull(t, "c", 0), []impl.Token{withNames(beside(aName, "d"), fullNames("c")...), withNames(apart(aNumber, "2"), fullNames("c")...)})
	wantExpanded(t, table, besidesFull(t, "n", 0), nil)
	wantExpanded(t, table, besidesFull(t, "f(1)", 2), []impl.Token{withNames(one, fullNames("f")...)})
	wantExpanded(t, table, besidesFull(t, "k(1)", 2), []impl.Token{withNames(two, "k")})
	wantExpanded(t, table, besidesFull(t, "s(1)", 2), []impl.Token{withNames(beside(aText, `"1"`), "s")})
	wantExpanded(t, table, besidesFull(t, "f(n)", 2), nil)
	for _, at := range []int{0, 1, 3} {
		wantExpanded(t, table, besidesFull(t, "f(1)", at), []impl.Token{withNames(one, "f")})
	}
	// With both of the same names, they are in what is between the parentheses, and in what is pasted, too.
	list := besidesFull(t, "k(1)", 0)
	list[3].Hidden = list[0].Hidden
	wantExpanded(t, table, list, []impl.Token{withNames(two, fullNames("k")...)})
	list = besidesFull(t, "u(1,2)", 2)
	list[4].Hidden = list[2].Hidden
	wantExpanded(t, table, list, []impl.Token{withNames(beside(aNumber, "12"), fullNames("u")...)})
	// A name that is there already takes no further room, and with its own name a token is done.
	names := append([]string{"b"}, manyNames(impl.MaxTokens-1)...)
	wantExpanded(t, table, []impl.Token{withNames(beside(aName, "a"), names...)}, []impl.Token{withNames(beside(aName, "b"), namesTogether(names, []string{"a"})...)})
	wantExpanded(t, table, []impl.Token{withNames(beside(aName, "b"), names...)}, []impl.Token{withNames(beside(aName, "b"), names...)})
}

// A token with more than MaxTokens names in Hidden is a macro, a parenthesis, or what is behind them, as any other one.
func TestExpandUsesOfManyHidden(t *testing.T) {
	table := tableOf(t, "c d e", "d e() x", "e() 7", "f(x) [x]", "g f", "h f() x", "q g g", "v f(", "w )")
	full := func(token impl.Token, names ...string) impl.Token { return withNames(token, fullNames(names...)...) }
	open, end := beside(aMark, "["), beside(aMark, "]")
	bracketed := []impl.Token{withNames(open, "f"), withNames(beside(aNumber, "1"), "f"), withNames(end, "f")}
	wantExpanded(t, table, besidesFull(t, "g(1)", 0), bracketed)
	wantExpanded(t, table, besidesFull(t, "v 1)", 0), bracketed)
	wantExpanded(t, table, besidesFull(t, "q(1)", 0), append([]impl.Token{full(beside(aName, "f"), "g", "q")}, withNames(apart(aMark, "["), "f"), bracketed[1], bracketed[2]))
	wantExpanded(t, table, besidesFull(t, "d", 0), []impl.Token{full(beside(aNumber, "7"), "d", "e"), full(apart(aName, "x"), "d")})
	wantExpanded(t, table, besidesFull(t, "c", 0), []impl.Token{full(beside(aNumber, "7"), "c", "d", "e"), full(apart(aName, "x"), "c", "d"), full(apart(aName, "e"), "c")})
	wantExpanded(t, table, besidesFull(t, "h", 0), []impl.Token{full(open, "f", "h"), full(end, "f", "h"), full(apart(aName, "x"), "h")})
	// What would be in place of a macro behind the name does not count.
	wantExpanded(t, table, besidesFull(t, "g w", 0), []impl.Token{full(beside(aName, "f"), "g"), withNames(beside(aMark, ")"), "w")})
	wantFault(t, table, besidesFull(t, "g(1", 0), impl.ExpandArgs)
	wantFault(t, table, besidesFull(t, "g(1,2)", 0), impl.ExpandArgs)
	wantFault(t, table, besidesFull(t, "g(1 w", 0), impl.ExpandArgs)
	wantFault(t, table, besidesFull(t, "v", 0), impl.ExpandArgs)
	wantFault(t, table, besidesFull(t, "v 1,2)", 0), impl.ExpandArgs)
}

// An argument with a token that has more than MaxTokens names is not possible to put in, raw or ready, wherever the body has it.
func TestExpandArgumentsOfManyHidden(t *testing.T) {
	table := tableOf(t, "a b", "e() 7", "f(x) x", "h f(b)", "i f(n)", "j f(f(,))", "k(x) 2", "n", "s(x) #x", "z h")
	for _, line := range []string{"h", "i", "z"} {
		wantFault(t, table, besidesFull(t, line, 0), impl.ExpandPaste)
	}
	for _, line := range []string{"f(a)", "k(a)", "s(a)"} {
		wantFault(t, table, besidesFull(t, line, 2), impl.ExpandPaste)
		wantExpanded(t, table, besidesFull(t, line, 2)[2:3], []impl.Token{withNames(beside(aName, "b"), fullNames("a")...)})
	}
	wantFault(t, table, besidesFull(t, "f(f(1))", 4), impl.ExpandPaste)
	wantFault(t, table, besidesFull(t, "k(k(a))", 4), impl.ExpandPaste)
	wantExpanded(t, table, besidesFull(t, "k(k(1))", 4), []impl.Token{withNames(beside(aNumber, "2"), "k")})
	wantExpanded(t, table, besidesFull(t, "k(n)", 2), []impl.Token{withNames(beside(aNumber, "2"), "k")})
	// Faults in the argument itself come first, and so does that of a ) that is missing, or of arguments that do not fit.
	wantFault(t, table, besidesFull(t, "j", 0), impl.ExpandArgs)
	wantFault(t, table, besidesFull(t, "f(a,1)", 2), impl.ExpandArgs)
	wantFault(t, table, besidesFull(t, "f(a", 2), impl.ExpandArgs)
	wantFault(t, table, besidesFull(t, "e(a)", 2), impl.ExpandArgs)
	wantFault(t, table, append(besidesFull(t, "f(a)", 2), besides(t, "f(,)")...), impl.ExpandPaste)
	wantFault(t, table, append(besides(t, "f(,)"), besidesFull(t, "f(a)", 2)...), impl.ExpandArgs)
}

// As many tokens and macros as there may be, all with as many names as there may be.
func TestExpandMostHidden(t *testing.T) {
	var lines, names []string
	for i := range impl.MaxMacros {
		names = append(names, string([]byte{'a' + byte(i)}))
		lines = append(lines, names[i]+" "+string([]byte{'a' + byte(i) + 1}))
	}
	table := tableOf(t, lines...)
	j, last := withNames(beside(aName, "j"), manyNames(impl.MaxTokens)...), withNames(beside(aName, "k"), fullNames("j")...)
	wantExpanded(t, table, manyTokens(j, impl.MaxTokens), manyTokens(last, impl.MaxTokens))
	a := withNames(beside(aName, "a"), manyNames(impl.MaxTokens)...)
	last = withNames(beside(aName, "k"), fullNames(names...)...)
	wantExpanded(t, table, manyTokens(a, 10), manyTokens(last, 10))
	wantFault(t, table, manyTokens(a, 11), impl.ExpandLong)
	table = tableOf(t, "d 1 1", "n")
	d := besidesFull(t, "d", 0)
	wantExpanded(t, table, append(d, manyTokens(beside(aName, "n"), 58)...), []impl.Token{withNames(beside(aNumber, "1"), fullNames("d")...), withNames(apart(aNumber, "1"), fullNames("d")...)})
	wantFault(t, table, append(d, manyTokens(beside(aName, "n"), 59)...), impl.ExpandLong)
	wantFault(t, table, append(manyTokens(beside(aName, "x"), 59), d...), impl.ExpandLong)
}

// timesLine returns a line with words, each a number of times.
func timesLine(words string, counts ...int) string {
	line := ""
	for i, word := range strings.Fields(words) {
		line += strings.Repeat(word+" ", counts[i])
	}
	return line
}

// wantCount checks the fault of a line, and how many tokens there are in its place without one.
func wantCount(t *testing.T, table []impl.Macro, line string, wantFault int, want int) {
	t.Helper()
	if got, fault := impl.Expand(table, tokensOf(t, line)); fault != wantFault || len(got) != want {
		t.Errorf("%q is expanded to %d tokens, %v, want %d, %v", line, len(got), fault, want, wantFault)
	}
}

// At most MaxTokens tokens are done.
func TestExpandManyDone(t *testing.T) {
	table := tableOf(t, "d 1 1", "n", "q 1 2 3 4 5 6 7")
	for count := range impl.MaxTokens {
		rest := impl.MaxTokens - count - 1
		wantCount(t, table, timesLine("x y", count, rest), impl.ExpandGood, impl.MaxTokens-1)
		wantCount(t, table, timesLine("x n y", count, 1, rest), impl.ExpandGood, impl.MaxTokens-1)
		wantCount(t, table, timesLine("x z y", count, 1, rest), impl.ExpandGood, impl.MaxTokens)
		wantCount(t, table, timesLine("x d y", count, 1, rest), impl.ExpandLong, 0)
	}
	wantCount(t, table, timesLine("x d", 58, 1), impl.ExpandGood, 60)
	wantCount(t, table, timesLine("x d", 59, 1), impl.ExpandLong, 0)
	wantCount(t, table, timesLine("x d", 20, 20), impl.ExpandGood, 60)
	wantCount(t, table, timesLine("x d", 21, 20), impl.ExpandLong, 0)
	wantCount(t, table, timesLine("q x", 8, 4), impl.ExpandGood, 60)
	wantCount(t, table, timesLine("q x", 8, 5), impl.ExpandLong, 0)
	wantCount(t, table, timesLine("q x n", 8, 4, 1), impl.ExpandGood, 60)
	wantCount(t, table, timesLine("x n", 59, 1), impl.ExpandGood, 59)
}

// At most MaxTokens tokens are left to do after a step, though they may be fewer when they are expanded.
func TestExpandManyLeft(t *testing.T) {
	table := tableOf(t, "d 1 1", "e(x) n n n n n n", "m n n n", "n", "q 1 2 3 4 5 6 7")
	wantCount(t, table, timesLine("d x", 1, 58), impl.ExpandGood, 60)
	wantCount(t, table, timesLine("d x", 1, 59), impl.ExpandLong, 0)
	wantCount(t, table, timesLine("d n", 1, 58), impl.ExpandGood, 2)
	wantCount(t, table, timesLine("d n", 1, 59), impl.ExpandLong, 0)
	wantCount(t, table, timesLine("m n", 1, 57), impl.ExpandGood, 0)
	wantCount(t, table, timesLine("m n", 1, 58), impl.ExpandLong, 0)
	// What is done does not count, and what is in place of the arguments counts only behind them.
	wantCount(t, table, timesLine("x d n", 1, 1, 58), impl.ExpandGood, 3)
	wantCount(t, table, timesLine("n d n", 1, 1, 58), impl.ExpandGood, 2)
	wantCount(t, table, timesLine("x x q n", 1, 1, 1, 53), impl.ExpandGood, 9)
	wantCount(t, table, timesLine("x x q n", 1, 1, 1, 54), impl.ExpandLong, 0)
	wantCount(t, table, timesLine("d d n", 1, 1, 57), impl.ExpandGood, 4)
	wantCount(t, table, timesLine("d d n", 1, 1, 58), impl.ExpandLong, 0)
	wantCount(t, table, "e(1)"+timesLine("n", 54), impl.ExpandGood, 0)
	wantCount(t, table, "e(1)"+timesLine("n", 55), impl.ExpandLong, 0)
	wantCount(t, table, "e()"+timesLine("n", 57), impl.ExpandLong, 0)
}

// At most MaxTokens tokens are done, or left to do after a step, of an argument, though it is not put in.
func TestExpandManyInArguments(t *testing.T) {
	table := tableOf(t, "f(x) x", "g(x,y) y", "h 1 2 3 4 5 6 7 8 9 1 2 3 4 5 6 7 8 9 1 2", "k(x) 1", "n", "s(x) #x")
	for _, use := range []string{"k(", "s(", "k(k(", "s(k(", "f(k(", "k(f(k("} {
		end := strings.Repeat(")", strings.Count(use, "("))
		wantCount(t, table, use+timesLine("h n", 1, 40)+end, impl.ExpandGood, 1)
		wantCount(t, table, use+timesLine("h n", 1, 41)+end, impl.ExpandLong, 0)
		wantCount(t, table, use+timesLine("x h n", 7, 1, 40)+end, impl.ExpandGood, 1)
		wantCount(t, table, use+timesLine("x h n", 7, 1, 41)+end, impl.ExpandLong, 0)
		wantCount(t, table, use+timesLine("h x", 2, 20)+end, impl.ExpandGood, 1)
		wantCount(t, table, use+timesLine("x h", 20, 2)+end, impl.ExpandGood, 1)
		wantCount(t, table, use+timesLine("x h", 21, 2)+end, impl.ExpandLong, 0)
		wantCount(t, table, use+timesLine("h", 3)+end, impl.ExpandGood, 1)
		wantCount(t, table, use+timesLine("h x", 3, 1)+end, impl.ExpandLong, 0)
	}
	// Each argument has its own tokens, and what is done before the macro is not of them.
	wantCount(t, table, "g("+timesLine("h", 3)+","+timesLine("h", 3)+")", impl.ExpandGood, 60)
	wantCount(t, table, "g("+timesLine("h x", 3, 1)+","+timesLine("h", 3)+")", impl.ExpandLong, 0)
	wantCount(t, table, "g("+timesLine("h", 3)+","+timesLine("h x", 3, 1)+")", impl.ExpandLong, 0)
	wantCount(t, table, "h h k(h h h)", impl.ExpandGood, 41)
	wantCount(t, table, "h h h n n k(h h h)", impl.ExpandLong, 0)
	// What is put in is left to do with what is behind it, and not with what is done.
	wantCount(t, table, "f(h h h)", impl.ExpandGood, 60)
	wantCount(t, table, "n f(h h h)", impl.ExpandGood, 60)
	wantCount(t, table, "f(h h h) n", impl.ExpandLong, 0)
	wantCount(t, table, "x f(h h h)", impl.ExpandLong, 0)
	wantCount(t, table, "f(h h)f(h)", impl.ExpandGood, 60)
}

// More than 4*MaxTokens tokens are not possible to put in, and fewer can be too many to do.
func TestExpandManyPutIn(t *testing.T) {
	table := tableOf(t, "c(x) x x x x", "q 1 2 3 4 5 6 7", "v(x) x x x x x", "w(x) x x x x 1", "z(x) x ## x ## x ## x")
	wantCount(t, table, "c("+timesLine("x", 15)+")", impl.ExpandGood, 60)
	wantCount(t, table, "c("+timesLine("x", 16)+")", impl.ExpandLong, 0)
	wantCount(t, table, "c("+timesLine("q x", 8, 4)+")", impl.ExpandLong, 0)
	wantCount(t, table, "v("+timesLine("x", 12)+")", impl.ExpandGood, 60)
	wantCount(t, table, "v("+timesLine("x", 13)+")", impl.ExpandLong, 0)
	wantCount(t, table, "v("+timesLine("x", 48)+")", impl.ExpandLong, 0)
	wantCount(t, table, "v("+timesLine("x", 49)+")", impl.ExpandPaste, 0)
	wantCount(t, table, "v("+timesLine("q x", 8, 4)+")", impl.ExpandPaste, 0)
	wantCount(t, table, "w("+timesLine("q x", 8, 3)+")", impl.ExpandLong, 0)
	wantCount(t, table, "w("+timesLine("q x", 8, 4)+")", impl.ExpandPaste, 0)
	wantCount(t, table, "z("+timesLine("x", 15)+")", impl.ExpandGood, 57)
	wantCount(t, table, "z("+timesLine("x", 16)+")", impl.ExpandLong, 0)
}

// stepMacros are macros that leave no tokens: n takes one step, and t ten.
const stepMacros = "n|t n n n n n n n n n|"

// stepsLine returns a line that takes a number of steps, and leaves no tokens.
func stepsLine(steps int) string {
	return timesLine("t n", steps/10, steps%10)
}

// There are at most MaxSteps steps, whatever they do.
func TestExpandSteps(t *testing.T) {
	table := tableOf(t, strings.Split(stepMacros+"a a|e()|k(x) 1", "|")...)
	for tens := range 12 {
		for ones := range 40 {
			fault, count := impl.ExpandGood, 1
			if 10*tens+ones > impl.MaxSteps {
				fault, count = impl.ExpandLong, 0
			}
			wantCount(t, table, timesLine("t n x", tens, ones, 1), fault, count)
			wantCount(t, table, timesLine("n x t", ones, 1, tens), fault, count)
		}
	}
	for use, count := range map[string]int{"n": 0, "a": 1, "e()": 0, "k(1)": 1} {
		for _, before := range []int{0, 37, 99} {
			line := stepsLine(before) + use + " " + stepsLine(99-before)
			wantCount(t, table, line, impl.ExpandGood, count)
			wantCount(t, table, "n "+line, impl.ExpandLong, 0)
			wantCount(t, table, line+use, impl.ExpandLong, 0)
		}
	}
	// What is no use of a macro is no step.
	wantCount(t, table, stepsLine(100)+"x k e", impl.ExpandGood, 3)
	wantCount(t, table, stepsLine(100)+"x k e ()", impl.ExpandLong, 0)
}

// Steps in arguments count, too, also if these are not put in, and once only if they are put in more than once.
func TestExpandStepsInArguments(t *testing.T) {
	table := tableOf(t, strings.Split(stepMacros+"a a|f(x) x|g(x,y) x|k(x) 1|m(x) x x x|s(x) #x", "|")...)
	for line, steps := range map[string]int{
		"k(n)": 2, "k(a)": 2, "k(t)": 11, "k(t t n)": 22, "k(k(n))": 3, "k(k(k(t)))": 13, "k(k(n) k(n))": 5,
		"f(n)": 2, "f(a)": 2, "f(f(a))": 3, "f(f(f(t)))": 13, "m(a)": 2, "m(m(a))": 3, "m(t)": 11, "m(m(t))": 12,
		"s(n)": 2, "s(a t)": 12, "s(s(t))": 12, "g(n,n)": 3, "g(t,t)": 21, "g(a,k(n))": 4, "g(g(n,n),g(t,a))": 16, "k(n)k(n)": 4,
	} {
		for _, before := range []int{0, 30, impl.MaxSteps - steps} {
			behind := impl.MaxSteps - steps - before
			if _, fault := impl.Expand(table, tokensOf(t, stepsLine(before)+line+stepsLine(behind))); fault != impl.ExpandGood {
				t.Errorf("%q takes more than %d steps", line, steps)
			}
			wantCount(t, table, stepsLine(before)+line+stepsLine(behind+1), impl.ExpandLong, 0)
			wantCount(t, table, stepsLine(before+1)+line+stepsLine(behind), impl.ExpandLong, 0)
		}
	}
	for steps := range 110 {
		fault, count := impl.ExpandGood, 1
		if steps+1 > impl.MaxSteps {
			fault, count = impl.ExpandLong, 0
		}
		wantCount(t, table, "k("+stepsLine(steps)+")", fault, count)
		wantCount(t, table, "g(a,"+stepsLine(max(steps, 1)-1)+")", fault, count)
	}
}

// A step that would be one too many comes before its own faults, and is counted before the steps in its arguments.
func TestExpandStepsAndFaults(t *testing.T) {
	table := tableOf(t, strings.Split(stepMacros+"f(x) x|g(x,y) x|k(x) 1|p + ## a|q(x) x ## +", "|")...)
	for line, fault := range map[string]int{
		"p": impl.ExpandPaste, "q(1)": impl.ExpandPaste, "g(1)": impl.ExpandArgs, "g(": impl.ExpandArgs, "k(1": impl.ExpandArgs, "g(p)": impl.ExpandArgs, "g(k(1))": impl.ExpandArgs,
	} {
		checkFaults(t, table, fault, line, stepsLine(98)+line, stepsLine(99)+line)
		checkFaults(t, table, impl.ExpandLong, stepsLine(100)+line, stepsLine(101)+line)
	}
	for line, fault := range map[string]int{
		"k(p)": impl.ExpandPaste, "k(g(1))": impl.ExpandArgs, "k(g(1,2,3))": impl.ExpandArgs, "q(k(1))": impl.ExpandPaste, "g(1,p)": impl.ExpandPaste, "g(1,g())": impl.ExpandArgs, "q(p)": impl.ExpandPaste,
	} {
		checkFaults(t, table, fault, line, stepsLine(97)+line, stepsLine(98)+line)
		checkFaults(t, table, impl.ExpandLong, stepsLine(99)+line, stepsLine(100)+line)
	}
	checkFaults(t, table, impl.ExpandArgs, stepsLine(97)+"g(n,g(1))")
	checkFaults(t, table, impl.ExpandLong, stepsLine(98)+"g(n,g(1))", stepsLine(98)+"g(n,p)", stepsLine(98)+"g(k(1),g(1))", stepsLine(98)+"k(k(p))")
	checkFaults(t, table, impl.ExpandPaste, stepsLine(97)+"g(n,p)", stepsLine(97)+"k(k(p))")
}

// The fault that comes first is that of the first step, from the left to the right, and of the arguments before what they are put in.
func TestExpandFirstFault(t *testing.T) {
	table := tableOf(t, "b b2 p", "b2 g(1)", "c p g(1)", "d 1 1", "g(x,y) x y", "k(x) 1", "n", "p + ## a", "q(x) 1 ## +", "v(x) x x x x x")
	checkFaults(t, table, impl.ExpandArgs,
		"g(1) p", "g( p", "g(p)", "g(p", "g(p,1", "g(p,p,p)", "k(g(1)) p", "k(g(1) p)", "g(g(1),p)", "q(g(1))", "q(g(1)) p", "g(k(1),g(1)) p", "b", "k(b) p", "q(q(g(", "q(1,2)")
	checkFaults(t, table, impl.ExpandPaste,
		"p g(1)", "p g(", "g(p,g(1))", "k(p) g(", "k(p g(1))", "q(p)", "q(1) g(", "q(1) g(1)", "k(p k(1,2))", "c", "k(c) g(1)", "g(c,b)", "k(1) p g(")
	// With 61 tokens done, or left, nothing further counts.
	wantCount(t, table, timesLine("x d p", 58, 1, 1), impl.ExpandPaste, 0)
	wantCount(t, table, timesLine("x d p", 57, 2, 1), impl.ExpandLong, 0)
	wantCount(t, table, timesLine("x d p", 56, 2, 1), impl.ExpandPaste, 0)
	wantCount(t, table, timesLine("x d g(", 56, 2, 1), impl.ExpandArgs, 0)
	wantCount(t, table, timesLine("d p n", 1, 1, 57), impl.ExpandPaste, 0)
	wantCount(t, table, timesLine("d p n", 1, 1, 58), impl.ExpandLong, 0)
	wantCount(t, table, timesLine("p d n", 1, 1, 58), impl.ExpandPaste, 0)
	wantCount(t, table, timesLine("n d p n", 1, 1, 1, 57), impl.ExpandPaste, 0)
	wantCount(t, table, "v("+timesLine("x", 49)+") p g(", impl.ExpandPaste, 0)
	wantCount(t, table, "v("+timesLine("x", 48)+") p g(", impl.ExpandLong, 0)
	wantCount(t, table, "v("+timesLine("x", 48)+"g()) p", impl.ExpandArgs, 0)
}

// Tables that are not valid, with the fault that there is for all tokens then, also for those that have another one.
func TestExpandInvalidTables(t *testing.T) {
	tables := [][]impl.Macro{macrosOf(t, "b", "a"), macrosOf(t, "a", "a"), macrosOf(t, "a", "b", "a"), macrosOf(t, "a", "B"), manyMacros(impl.MaxMacros + 1), append(manyMacros(2), impl.Macro{})}
	for _, wrong := range wrongMacros() {
		tables = append(tables, []impl.Macro{wrong}, append(macrosOf(t, "A"), wrong), append([]impl.Macro{wrong}, macrosOf(t, "z")...))
	}
	lists := [][]impl.Token{nil, {}, besides(t, "a"), besides(t, "x"), tokensOf(t, "a ( b"), tokensOf(t, "f(1) n00"), {{}}, manyTokens(beside(aName, "a"), impl.MaxTokens+1)}
	for _, table := range tables {
		wantTableValid(t, table, false)
		for _, list := range lists {
			wantFault(t, table, list, -1)
		}
		for _, line := range []string{"", " ", "a", "x", "a (", "f(1)", "@", "n00"} {
			wantNoLine(t, table, line)
		}
	}
	wantExpanded(t, manyMacros(impl.MaxMacros), besides(t, "n00 x"), []impl.Token{withNames(beside(aName, "n00"), "n00"), beside(aName, "x")})
}

// Tokens that are not valid, anywhere, and too many of them.
func TestExpandInvalidTokens(t *testing.T) {
	for _, table := range [][]impl.Macro{nil, tableOf(t, "a 1", "f(x) x"), tableOf(t, "p + ## a")} {
		for _, wrong := range wrongTokens() {
			for _, list := range [][]impl.Token{{}, besides(t, "a"), besides(t, "f(a) a"), besides(t, "x y z"), besides(t, "f(,) a"), besides(t, "p p")} {
				for i := range len(list) + 1 {
					wantFault(t, table, slices.Insert(slices.Clone(list), i, wrong), -1)
				}
			}
		}
		for _, token := range append(allSorts(), beside(aName, "n"), beside(aName, "f"), beside(aName, "p"), hiding("a")) {
			wantFault(t, table, manyTokens(token, impl.MaxTokens+1), -1)
			wantFault(t, table, manyTokens(token, 2*impl.MaxTokens), -1)
		}
	}
	// A macro that leaves no tokens does not make them fewer before they are counted.
	table := tableOf(t, "n")
	wantExpanded(t, table, manyTokens(beside(aName, "n"), impl.MaxTokens), nil)
	wantFault(t, table, manyTokens(beside(aName, "n"), impl.MaxTokens+1), -1)
}

// Lines that cannot be divided, or are too long, whatever the table is.
func TestExpandLineInvalid(t *testing.T) {
	for _, table := range [][]impl.Macro{nil, tableOf(t, "a 1", "f(x) x", "n")} {
		for _, line := range []string{"@", "a @", "a\\", `a "b`, "a\n", "\n", "a\tb", "n\x00", "\u00e9", "abcdefghijklm", "1234567890123", "'a'", "$", "a ~", strings.Repeat("n ", 101), strings.Repeat("n ", impl.MaxTokens+1), strings.Repeat(" ", 201)} {
			wantNoLine(t, table, line)
		}
	}
	checkExpansions(t, tableOf(t, "n"), [][2]string{{strings.Repeat("n ", impl.MaxTokens), ""}})
}

// Every 97th pair of a table of a few macros and a line of at most five pieces, so that every table has about 200 lines.
func TestExpandAnotherWay(t *testing.T) {
	var tables [][]impl.Macro
	for _, a := range []string{"a", "a a", "a b", "a f", "a 1 b"} {
		for _, b := range []string{"b a", "b f(", "b ) (", "b ,", "b 2"} {
			for _, f := range []string{"f(x) x", "f(x) x x", "f(x) #x a", "f(x) x ## b", "f(x) f(x) b", "f(x) e"} {
				for _, e := range []string{"e() f", "e() e()", "e() a"} {
					tables = append(tables, tableOf(t, a, b, f, e))
				}
			}
		}
	}
	lines := listsOf([]string{"a", "b", "f(", "e()", ")", ",", "f"}, 5)
	faults := make([]int, 4)
	for number := 0; number < len(tables)*len(lines); number += 97 {
		line := strings.Join(lines[number%len(lines)], []string{"", " "}[number%2])
		if list, ok := impl.TokensOf(line); ok {
			faults[checkExpanded(t, tables[number/len(lines)], list)]++
		}
	}
	if faults[impl.ExpandGood] < 10000 || faults[impl.ExpandArgs] < 10000 || faults[impl.ExpandPaste] < 100 {
		t.Errorf("the faults come as often as %v", faults)
	}
}

// choices are numbers that are chosen in a fixed order.
type choices struct {
	seed int
}

// below returns the next number in 0..limit-1.
func (c *choices) below(limit int) int {
	c.seed = c.seed * 16807 % 2147483647
	return c.seed / 7 % limit
}

// pieces returns a line of a number of words.
func (c *choices) pieces(words []string, count int) string {
	line := ""
	for range count {
		line += []string{"", " "}[c.below(2)] + words[c.below(len(words))]
	}
	return line
}

// table returns the table of the macros of some lines that define one.
func (c *choices) table(words []string) []impl.Macro {
	var table []impl.Macro
	for _, head := range []string{"a ", "b ", "c ", "e() ", "f(x) ", "g(x,y) ", "h(x,x1,y) ", "n ", "p(x) ", "q "} {
		if c.below(4) == 0 {
			continue
		}
		list, _ := impl.TokensOf(head + c.pieces(words, c.below(2+c.below(14))))
		if m, ok := impl.MacroOf(list); ok {
			table, _ = impl.Define(table, m)
		}
	}
	return table
}

// tokens returns at most MaxTokens tokens, which are mostly not Hidden.
func (c *choices) tokens(words []string) []impl.Token {
	list, _ := impl.TokensOf(c.pieces(words, c.below(8+c.below(30))))
	for i := range list {
		if c.below(5) == 0 {
			subsets := allSubsets("a", "b", "f", "g", "zz")
			list[i].Hidden = subsets[c.below(len(subsets))]
		}
	}
	return list
}

// Longer bodies and lists, with Hidden names, that are chosen in a fixed order.
func TestExpandAnotherWayMore(t *testing.T) {
	c := choices{seed: 1}
	body := []string{"x", "x", "y", "a", "b", "c", "e()", "f(", "f(x)", "g(x,", "h", "(", ")", ")", ",", "n", "p(y)", "q", " ## ", "#x ", "1", "+", "=", `"t"`}
	words := []string{"a", "b", "c", "e()", "f(", "f(1)", "g(", "g(a,", "h(", "h(,c,", "(", ")", ")", ")", ",", "n", "p(", "q", "x", "1", "f", "g"}
	faults := make([]int, 4)
	for range 30000 {
		faults[checkExpanded(t, c.table(body), c.tokens(words))]++
	}
	for fault, count := range faults {
		if count < 300 {
			t.Errorf("the fault %d comes %d times", fault, count)
		}
	}
}

// The same with tokens that have nearly as many Hidden names as they may have, or as many.
func TestExpandAnotherWayManyHidden(t *testing.T) {
	c := choices{seed: 3}
	body := []string{"x", "x", "y", "a", "b", "c", "e()", "f(", "f(x)", "g(x,", "h", "(", ")", ")", ",", "n", "p(y)", " ## ", "#x ", "1", "+"}
	words := []string{"a", "b", "c", "e()", "f(", "f(1)", "f()", "g(a,", "p(", "(", ")", ")", "n", "x", "1", "f", "g"}
	faults, full := make([]int, 4), 0
	for range 4000 {
		table, list := c.table(body), c.tokens(words)
		for i := range list {
			if c.below(2) == 0 {
				list[i].Hidden = manyNames(impl.MaxTokens - c.below(3))
			}
		}
		faults[checkExpanded(t, table, list)]++
		if got, _ := impl.Expand(table, list); mostHidden(got) > impl.MaxTokens {
			full++
		}
	}
	if slices.Min(faults) < 50 || full < 150 {
		t.Errorf("the faults come as often as %v, and tokens with more names than valid ones %d times", faults, full)
	}
}

// Lines that take about as many steps as there may be, and leave about as many tokens, that are chosen in a fixed order.
func TestExpandAnotherWayLimits(t *testing.T) {
	c := choices{seed: 2}
	table := tableOf(t, "a b b", "b c c", "c n", "d 1 1 1", "e() d d", "k(x) 1", "m(x) x x", "n", "p a ## +", "t n n n n n n n n n")
	words := []string{" a", " a", " b", " d", " d", " e()", " k(", " k(t", " m(", ")", ")", " t", " t", " t", " n", " x"}
	faults := make([]int, 4)
	for round := range 10000 {
		line := c.pieces(words, c.below(36))
		line += strings.Repeat(" )", max(0, strings.Count(line, "(")-strings.Count(line, ")")))
		line += []string{"", " p", " k("}[round%3]
		if list, ok := impl.TokensOf(line); ok {
			faults[checkExpanded(t, table, list)]++
		}
	}
	for fault, count := range faults {
		if count < 1000 {
			t.Errorf("the fault %d comes %d times", fault, count)
		}
	}
}

// The general rules: arguments are not written to, results share no memory with them, and no state is kept.
func TestExpandKeepsArguments(t *testing.T) {
	for _, line := range []string{"", "x", "a", "x a y f(1 a)", "g(a,b) x", "f(f(a)) b", "b n a", "g(1", "p", "f(x) f(x,y)"} {
		table := roomyTable(t, "a b + 1", "b", "f(x) x x#x a", "g(x,y) x##1 y", "n 1", "p + ## a")
		list := roomyTokens(t, line)
		wantTable, wantList := wholeTable(table), wholeTokens(list)
		first, fault := impl.Expand(table, list)
		want := copiedArguments([][]impl.Token{first})[0]
		printed, ok := impl.ExpandLine(table, line)
		changeWholeTokens(first)
		if !reflect.DeepEqual(wholeTable(table), wantTable) || !reflect.DeepEqual(wholeTokens(list), wantList) {
			t.Fatalf("for %q the table is now %v, and the tokens are %v", line, table, list)
		}
		second, again := impl.Expand(table, list)
		if line, isOK := impl.ExpandLine(table, line); line != printed || isOK != ok {
			t.Fatalf("ExpandLine is %q, %v, and was %q, %v before", line, isOK, printed, ok)
		}
		changeTable(table)
		changeWholeTokens(list)
		if fault != again || !sameTokens(second, want) {
			t.Fatalf("%q is expanded to %v, %v, and was to %v, %v before", line, second, again, want, fault)
		}
	}
}

// The general rules: the tokens of a result share no memory with each other, though given ones do, or are put in more than once.
func TestExpandSharesNothing(t *testing.T) {
	table := roomyTable(t, "a b + b", "f(x) x x a x##x", "g(x) x")
	names := append(make([]string, 0, 6), "p", "q")
	list := tokensOf(t, "x a y f(c a d) g(g(1 2)) z")
	for i := range list {
		list[i].Hidden = names
	}
	whole, fault := impl.Expand(table, list)
	if fault != impl.ExpandGood || len(whole) < 20 {
		t.Fatalf("there are %v, %v", whole, fault)
	}
	for i := range whole {
		got, _ := impl.Expand(table, list)
		changeWholeTokens(got[i : i+1 : i+1])
		got[i] = whole[i]
		if !sameTokens(got, whole) {
			t.Fatalf("token %d shares memory with another one: %v", i, got)
		}
	}
}
