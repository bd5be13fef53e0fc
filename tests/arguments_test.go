package tests

import (
	"math"
	"reflect"
	"slices"
	"strings"
	"testing"

	"loop.example/macroprocessor/impl"
)

// sameArguments compares arguments one by one, where nil and empty slices are the same.
func sameArguments(a [][]impl.Token, b [][]impl.Token) bool {
	return slices.EqualFunc(a, b, sameTokens)
}

// wantArguments checks SplitArguments of tokens that have arguments, and what promise 59 says of them.
func wantArguments(t *testing.T, list []impl.Token, at int, want [][]impl.Token, wantBehind int) {
	t.Helper()
	args, behind, ok := impl.SplitArguments(list, at)
	if !ok || behind != wantBehind || !sameArguments(args, want) {
		t.Errorf("SplitArguments(%v, %d) = %v, %d, %v, want %v, %d, true", list, at, args, behind, ok, want, wantBehind)
		return
	}
	checkArguments(t, list[at:behind], args)
}

// checkArguments checks that arguments, the commas between them, and both parentheses are tokens, all of them, in order.
func checkArguments(t *testing.T, list []impl.Token, args [][]impl.Token) {
	t.Helper()
	count := 2 + len(args) - 1
	for _, arg := range args {
		count += len(arg)
	}
	if count != len(list) {
		t.Fatalf("the arguments %v have %d tokens, and %v has %d", args, count, list, len(list))
	}
	place := 0
	for i, arg := range args {
		mark := ","
		if i == 0 {
			mark = "("
		}
		from := place + 1
		place = from + len(arg)
		if list[from-1].Text != mark || !sameTokens(list[from:place], arg) || !impl.TokensValid(arg) {
			t.Fatalf("argument %d of %v is %v", i, list, arg)
		}
	}
	if list[place].Text != ")" {
		t.Fatalf("no ) is behind the arguments %v of %v", args, list)
	}
}

// wantNoArguments checks SplitArguments of tokens that have no arguments at a place.
func wantNoArguments(t *testing.T, list []impl.Token, at int) {
	t.Helper()
	if args, behind, ok := impl.SplitArguments(list, at); ok || behind != 0 || len(args) != 0 {
		t.Errorf("SplitArguments(%v, %d) = %v, %d, %v, want nothing and false", list, at, args, behind, ok)
	}
}

// wantFit checks ArgumentsFit.
func wantFit(t *testing.T, m impl.Macro, args [][]impl.Token, want bool) {
	t.Helper()
	if impl.ArgumentsFit(m, args) != want {
		t.Errorf("ArgumentsFit(%v, %v) = %v, want %v", m, args, !want, want)
	}
}

// argumentCase is a line, a place in its tokens, the place behind the arguments, and where each argument begins and ends.
type argumentCase struct {
	line   string
	at     int
	behind int
	parts  [][2]int
}

// checkCases checks SplitArguments of the tokens of lines.
func checkCases(t *testing.T, cases []argumentCase) {
	t.Helper()
	for _, c := range cases {
		list := tokensOf(t, c.line)
		var want [][]impl.Token
		for _, part := range c.parts {
			want = append(want, list[part[0]:part[1]])
		}
		wantArguments(t, list, c.at, want, c.behind)
	}
}

// Promise 59: ordinary arguments, with and without something before and behind them.
func TestSplitArgumentsOfLines(t *testing.T) {
	checkCases(t, []argumentCase{
		{"f(1)", 1, 4, [][2]int{{2, 3}}},
		{"(1)", 0, 3, [][2]int{{1, 2}}},
		{"f(a,b)", 1, 6, [][2]int{{2, 3}, {4, 5}}},
		{"f(a b,c)", 1, 7, [][2]int{{2, 4}, {5, 6}}},
		{"f( a , b )", 1, 6, [][2]int{{2, 3}, {4, 5}}},
		{"f (a)", 1, 4, [][2]int{{2, 3}}},
		{"x + f(a, b + c, 1) * 2 )", 3, 12, [][2]int{{4, 5}, {6, 9}, {10, 11}}},
		{"f(a) + g(b,c)", 1, 4, [][2]int{{2, 3}}},
		{"f(a) + g(b,c)", 6, 11, [][2]int{{7, 8}, {9, 10}}},
		{"(a)(b)", 0, 3, [][2]int{{1, 2}}},
		{"(a)(b)", 3, 6, [][2]int{{4, 5}}},
		{") , f(a)", 3, 6, [][2]int{{4, 5}}},
		{"f(a) ( , ", 1, 4, [][2]int{{2, 3}}},
		{"f(# ## x,1 2)", 1, 9, [][2]int{{2, 5}, {6, 8}}},
	})
}

// Promise 59: arguments without tokens, of which there is one if there are no tokens.
func TestSplitArgumentsWithoutTokens(t *testing.T) {
	checkCases(t, []argumentCase{
		{"()", 0, 2, [][2]int{{1, 1}}},
		{"f()", 1, 3, [][2]int{{2, 2}}},
		{"f(  )", 1, 3, [][2]int{{2, 2}}},
		{"f()()", 1, 3, [][2]int{{2, 2}}},
		{"f() a,b)", 1, 3, [][2]int{{2, 2}}},
		{"f(,)", 1, 4, [][2]int{{2, 2}, {3, 3}}},
		{"f(,,)", 1, 5, [][2]int{{2, 2}, {3, 3}, {4, 4}}},
		{"f( , )", 1, 4, [][2]int{{2, 2}, {3, 3}}},
		{"f(a,)", 1, 5, [][2]int{{2, 3}, {4, 4}}},
		{"f(,a)", 1, 5, [][2]int{{2, 2}, {3, 4}}},
		{"f(a,,b)", 1, 7, [][2]int{{2, 3}, {4, 4}, {5, 6}}},
	})
	args, _, ok := impl.SplitArguments(tokensOf(t, "()"), 0)
	if !ok || len(args) != 1 || len(args[0]) != 0 {
		t.Errorf("the arguments of () are %v, %v", args, ok)
	}
}

// Promise 59: commas and parentheses in further parentheses belong to an argument.
func TestSplitArgumentsParentheses(t *testing.T) {
	checkCases(t, []argumentCase{
		{"f((a,b),c)", 1, 10, [][2]int{{2, 7}, {8, 9}}},
		{"f(c,(a,b))", 1, 10, [][2]int{{2, 3}, {4, 9}}},
		{"f(a,(b,c),) d", 1, 11, [][2]int{{2, 3}, {4, 9}, {10, 10}}},
		{"f(())", 1, 5, [][2]int{{2, 4}}},
		{"f((),())", 1, 8, [][2]int{{2, 4}, {5, 7}}},
		{"f((,))", 1, 6, [][2]int{{2, 5}}},
		{"f(((,),),)", 1, 10, [][2]int{{2, 8}, {9, 9}}},
		{"f((a),b,(c))", 1, 12, [][2]int{{2, 5}, {6, 7}, {8, 11}}},
		{"f((a)(b),(c,)d)", 1, 15, [][2]int{{2, 8}, {9, 14}}},
		{"f(x,g(y,h(z,1)),2)", 1, 18, [][2]int{{2, 3}, {4, 15}, {16, 17}}},
		{"f(x,g(y,h(z,1)),2)", 5, 15, [][2]int{{6, 7}, {8, 14}}},
		{"f(x,g(y,h(z,1)),2)", 9, 14, [][2]int{{10, 11}, {12, 13}}},
		{"((a,b)", 1, 6, [][2]int{{2, 3}, {4, 5}}},
	})
}

// Promise 59: other brackets, and the bytes of texts, are tokens as any other.
func TestSplitArgumentsOtherTokens(t *testing.T) {
	checkCases(t, []argumentCase{
		{"f([a,b])", 1, 8, [][2]int{{2, 4}, {5, 7}}},
		{"f({a,b},c)", 1, 10, [][2]int{{2, 4}, {5, 7}, {8, 9}}},
		{"f([)]", 1, 4, [][2]int{{2, 3}}},
		{`f("(",b)`, 1, 6, [][2]int{{2, 3}, {4, 5}}},
		{`f(")",b)`, 1, 6, [][2]int{{2, 3}, {4, 5}}},
		{`f("a,b")`, 1, 4, [][2]int{{2, 3}}},
		{`f(",",",")`, 1, 6, [][2]int{{2, 3}, {4, 5}}},
		{`f("(,\")" ")")`, 1, 5, [][2]int{{2, 4}}},
	})
	for _, token := range allSorts() {
		if token.Text == "(" || token.Text == ")" || token.Text == "," {
			continue
		}
		list := []impl.Token{token, beside(aMark, "("), token, token, beside(aMark, ","), token, beside(aMark, ")"), token}
		wantArguments(t, list, 1, [][]impl.Token{{token, token}, {token}}, 7)
		for _, at := range []int{0, 2, 3, 4, 5, 6, 7} {
			wantNoArguments(t, list, at)
		}
	}
}

// Promise 59: there is no ( at the place, or the place is outside of the tokens.
func TestSplitArgumentsNoPlace(t *testing.T) {
	lines := []string{"", "a", ")", ",", "[a]", `"("`, `"(" ")"`, "f(a,(b,c),) d", "()", "(a)(b)", ")(", "f (a)"}
	for _, line := range lines {
		list := tokensOf(t, line)
		for at, token := range list {
			if token.Text != "(" {
				wantNoArguments(t, list, at)
			}
		}
		for _, at := range []int{-1, -2, -len(list), -len(list) - 1, len(list), len(list) + 1, 99, math.MinInt, math.MaxInt} {
			if at < 0 || at >= len(list) {
				wantNoArguments(t, list, at)
			}
		}
	}
	wantNoArguments(t, []impl.Token{}, 0)
	// Behind the end of the tokens their memory may go on.
	wantNoArguments(t, tokensOf(t, "(a)()")[:3], 3)
}

// Promise 59: the ) of a ( is missing.
func TestSplitArgumentsNoEnd(t *testing.T) {
	for _, line := range []string{"(", "(a", "(a,b", "((", "((a)", "(()", "(a,(b)", "(()()", "((),(", "(,", `(")"`, "(]", "(a}", "(a ( b ) , ( c )"} {
		list := tokensOf(t, line)
		wantNoArguments(t, list, 0)
		wantNoArguments(t, append(tokensOf(t, "f"), list...), 1)
		wantNoArguments(t, append(tokensOf(t, ")"), list...), 1)
		wantNoArguments(t, append(tokensOf(t, "f())"), list...), 4)
	}
	wantNoArguments(t, tokensOf(t, "(a)")[:2], 0)
}

// argumentsAnotherWay is another way to split valid tokens: it counts the parentheses of every part anew.
func argumentsAnotherWay(list []impl.Token, at int) ([][]impl.Token, int, bool) {
	if at < 0 || at >= len(list) || list[at].Text != "(" {
		return nil, 0, false
	}
	count := func(from int, to int, text string) int {
		n := 0
		for _, token := range list[from:to] {
			if token.Text == text {
				n++
			}
		}
		return n
	}
	balanced := func(from int, to int) bool { return count(from, to, "(") == count(from, to, ")") }
	for behind := at + 1; behind <= len(list); behind++ {
		if !balanced(at, behind) {
			continue
		}
		var args [][]impl.Token
		from := at + 1
		for place := at + 1; place < behind; place++ {
			if place == behind-1 || list[place].Text == "," && balanced(at+1, place) {
				args = append(args, list[from:place])
				from = place + 1
			}
		}
		return args, behind, true
	}
	return nil, 0, false
}

// Promise 59: all short lists of parentheses, commas and names, from every place on.
func TestSplitArgumentsOfShortLists(t *testing.T) {
	split, refused := 0, 0
	for _, texts := range listsOf([]string{"(", ")", ",", "a"}, 7) {
		list := tokensOf(t, strings.Join(texts, " "))
		for at := -1; at <= len(list); at++ {
			want, behind, ok := argumentsAnotherWay(list, at)
			if ok {
				split++
				wantArguments(t, list, at, want, behind)
			} else {
				refused++
				wantNoArguments(t, list, at)
			}
		}
	}
	if split < 10000 || refused < 10000 {
		t.Errorf("%d places have arguments, and %d have none", split, refused)
	}
}

// Promise 59: long lists of tokens that are chosen in a fixed order.
func TestSplitArgumentsOfLongLists(t *testing.T) {
	sorts := append([]impl.Token{beside(aMark, "("), beside(aMark, ")"), apart(aMark, "("), apart(aMark, ")"), beside(aMark, ","), apart(aMark, ",")}, hiding("a", "b"), apart(aNumber, "1"), beside(aText, `"(,)"`))
	seed, split := 1, 0
	for round := range 1000 {
		list := []impl.Token{}
		for range round%impl.MaxTokens + 1 {
			seed = seed * 16807 % 2147483647
			list = append(list, sorts[seed/7%len(sorts)])
		}
		for at := range list {
			want, behind, ok := argumentsAnotherWay(list, at)
			if ok {
				split++
				wantArguments(t, list, at, want, behind)
			} else {
				wantNoArguments(t, list, at)
			}
		}
	}
	if split < 1000 {
		t.Errorf("%d places have arguments", split)
	}
}

// Promise 59: as many tokens, commas and parentheses within each other as there may be.
func TestSplitArgumentsMany(t *testing.T) {
	open, end, comma, a := beside(aMark, "("), beside(aMark, ")"), beside(aMark, ","), beside(aName, "a")
	inside := func(tokens []impl.Token) []impl.Token {
		return slices.Concat([]impl.Token{open}, tokens, []impl.Token{end})
	}
	commas := manyTokens(comma, impl.MaxTokens-2)
	wantArguments(t, inside(commas), 0, make([][]impl.Token, impl.MaxTokens-1), impl.MaxTokens)
	names := manyTokens(a, impl.MaxTokens-2)
	wantArguments(t, inside(names), 0, [][]impl.Token{names}, impl.MaxTokens)
	wantNoArguments(t, inside(append(commas, comma)), 0)
	wantNoArguments(t, inside(append(names, a)), 0)
	wantNoArguments(t, append(inside(names), a), 0)
	half := impl.MaxTokens / 2
	deep := append(manyTokens(open, half), manyTokens(end, half)...)
	for at := range half {
		wantArguments(t, deep, at, [][]impl.Token{deep[at+1 : impl.MaxTokens-at-1]}, impl.MaxTokens-at)
		wantNoArguments(t, deep[:impl.MaxTokens-at-1], at)
	}
	wantNoArguments(t, manyTokens(open, impl.MaxTokens), 0)
}

// Promise 59: with a token that is not valid, anywhere, there are no arguments.
func TestSplitArgumentsInvalid(t *testing.T) {
	list := tokensOf(t, "f(a,(b,c),) d")
	for _, wrong := range wrongTokens() {
		for i := range len(list) + 1 {
			more := slices.Insert(slices.Clone(list), i, wrong)
			for at := range more {
				wantNoArguments(t, more, at)
			}
		}
		for i := range list {
			other := slices.Clone(list)
			other[i] = wrong
			wantNoArguments(t, other, 1)
		}
	}
	for _, wrong := range []impl.Token{{Text: "("}, beside(aName, "("), beside(aText, "("), beside(aMark, "( "), {Kind: aMark, Text: "(", Hidden: []string{"b", "a"}}} {
		wantNoArguments(t, []impl.Token{wrong, beside(aMark, ")")}, 0)
		wantNoArguments(t, []impl.Token{wrong, beside(aMark, ")"), beside(aMark, "("), beside(aMark, ")")}, 2)
	}
	for _, wrong := range []impl.Token{{Text: ")"}, beside(aName, ")"), beside(aMark, " )"), {Kind: aMark, Text: ")", Hidden: []string{"1"}}} {
		wantNoArguments(t, []impl.Token{beside(aMark, "("), wrong}, 0)
		wantNoArguments(t, []impl.Token{beside(aMark, "("), beside(aMark, ")"), wrong}, 0)
	}
}

// Promise 59: the tokens of arguments stay Spaced, the first one of each too, and keep their Hidden names.
func TestSplitArgumentsKeepsTokens(t *testing.T) {
	open := impl.Token{Kind: aMark, Text: "(", Spaced: true, Hidden: []string{"p"}}
	comma := impl.Token{Kind: aMark, Text: ",", Spaced: true, Hidden: []string{"q"}}
	end := impl.Token{Kind: aMark, Text: ")", Spaced: true, Hidden: []string{"r"}}
	first := impl.Token{Kind: aName, Text: "b", Spaced: true, Hidden: []string{"a", "b"}}
	second := impl.Token{Kind: aNumber, Text: "1", Hidden: manyNames(impl.MaxTokens)}
	list := []impl.Token{open, first, second, comma, second, first, comma, open, comma, end, end, comma}
	wantArguments(t, list, 0, [][]impl.Token{{first, second}, {second, first}, {open, comma, end}}, 11)
	wantArguments(t, list, 7, [][]impl.Token{nil, nil}, 10)
}

// argumentsOf returns a number of arguments, of different lengths, the first one of which has a number of tokens.
func argumentsOf(count int, first int) [][]impl.Token {
	args := make([][]impl.Token, count)
	for i := range args {
		args[i] = manyTokens(beside(aName, "a"), i%3)
	}
	if count > 0 {
		args[0] = manyTokens(apart(aNumber, "1"), first)
	}
	return args
}

// Promise 60: exactly as many arguments as parameters fit, whatever they are and whatever the body is.
func TestArgumentsFitCounts(t *testing.T) {
	params := []string{"w", "x", "y", "z"}
	for most := 1; most <= impl.MaxParams; most++ {
		for _, body := range []string{"", "w", "1 + 2", "#w w##w"} {
			m := functionMacro(t, "f", params[:most], body)
			for count := range 8 {
				for first := range 4 {
					wantFit(t, m, argumentsOf(count, first), count == most)
				}
				wantFit(t, m, make([][]impl.Token, count), count == most)
			}
		}
	}
}

// Promise 60: a macro without parameters takes one argument without tokens, which is none, and no other one.
func TestArgumentsFitWithoutParams(t *testing.T) {
	for _, m := range []impl.Macro{{Name: "e", Function: true}, {Name: "e", Function: true, Params: []string{}}, functionMacro(t, "e", nil, "1 + 2")} {
		wantFit(t, m, [][]impl.Token{{}}, true)
		wantFit(t, m, [][]impl.Token{nil}, true)
		wantFit(t, m, nil, true)
		wantFit(t, m, [][]impl.Token{}, true)
		wantFit(t, m, [][]impl.Token{{beside(aName, "a")}}, false)
		wantFit(t, m, [][]impl.Token{besides(t, "(a,b)")}, false)
		for count := 1; count < 8; count++ {
			for first := range 4 {
				wantFit(t, m, argumentsOf(count, first), count == 1 && first == 0)
			}
			wantFit(t, m, make([][]impl.Token, count), count == 1)
		}
	}
}

// Promise 60: no arguments fit a macro without Function.
func TestArgumentsFitWithoutFunction(t *testing.T) {
	for _, m := range []impl.Macro{{Name: "a"}, {Name: "a", Params: []string{}}, plainMacro(t, "a", "1"), plainMacro(t, "a", "(x) x"), {Name: "a", Params: []string{"x"}}, {Name: "a", Params: []string{"x", "y"}}} {
		for count := range 8 {
			for first := range 4 {
				wantFit(t, m, argumentsOf(count, first), false)
			}
		}
		wantFit(t, m, nil, false)
		wantFit(t, m, make([][]impl.Token, 1), false)
		wantFit(t, m, make([][]impl.Token, 2), false)
	}
}

// Promise 60: no arguments fit a macro that is not valid, also if there are as many as parameters.
func TestArgumentsFitInvalid(t *testing.T) {
	for _, wrong := range wrongMacros() {
		for _, params := range [][]string{wrong.Params, nil, {"x", "x"}, {"x", "1"}, {""}, {"v", "w", "x", "y", "z"}} {
			m := wrong
			m.Function = true
			m.Params = params
			if impl.MacroValid(m) {
				continue
			}
			for count := range 8 {
				wantFit(t, m, argumentsOf(count, 0), false)
				wantFit(t, m, argumentsOf(count, 1), false)
			}
			wantFit(t, m, nil, false)
		}
	}
}

// Promises 59 and 60: the arguments of lines fit the macros that lines define.
func TestArgumentsFitOfLines(t *testing.T) {
	macros := macrosOf(t, "e() 1", "f(x) x + x", "g(x,y) x ## y", "h(x,y,z) #x", "i(w,x,y,z)")
	cases := []struct {
		line string
		fits string
	}{
		{"()", "ef"}, {"(  )", "ef"}, {"(1)", "f"}, {"(a b)", "f"}, {"((a,b))", "f"}, {"(())", "f"}, {`("a,b")`, "f"},
		{"(,)", "g"}, {"(1,2)", "g"}, {"((a,b),c)", "g"}, {"(a,)", "g"}, {"(,a)", "g"}, {"([a,b])", "g"},
		{"(,,)", "h"}, {"(a,(b,c),)", "h"}, {"(,,,)", "i"}, {"(1,2,3,4)", "i"}, {"(,,,,)", ""}, {"(1,2,3,4,5)", ""},
	}
	for _, c := range cases {
		args, _, ok := impl.SplitArguments(tokensOf(t, c.line), 0)
		if !ok {
			t.Errorf("SplitArguments of %q is false", c.line)
		}
		for _, m := range macros {
			wantFit(t, m, args, strings.Contains(c.fits, m.Name))
		}
		wantFit(t, macroOf(t, "a (x) x"), args, false)
		wantFit(t, impl.Macro{}, args, false)
	}
}

// roomyTokens returns the tokens of a line with Hidden names, where all slices have more memory than they show.
func roomyTokens(t *testing.T, line string) []impl.Token {
	t.Helper()
	list := append(make([]impl.Token, 0, 40), tokensOf(t, line)...)
	for i := range list {
		list[i].Hidden = append(make([]string, 0, 4), manyNames(i%3)...)
	}
	return list
}

// wholeTokens returns all that is in the memory of tokens, also behind the end of their slices.
func wholeTokens(list []impl.Token) []impl.Token {
	return wholeTable([]impl.Macro{{Body: list}})[0].Body
}

// changeWholeTokens writes to all memory of tokens, also to that behind the end of their slices.
func changeWholeTokens(list []impl.Token) {
	changeWholeMacro(impl.Macro{Body: list})
}

// changeArguments writes to all memory of arguments.
func changeArguments(args [][]impl.Token) {
	whole := args[:cap(args)]
	for i := range whole {
		changeWholeTokens(whole[i])
		whole[i] = manyTokens(beside(aName, "changed"), 2)
	}
}

// copiedArguments returns arguments in new memory.
func copiedArguments(args [][]impl.Token) [][]impl.Token {
	var copied [][]impl.Token
	for _, arg := range args {
		list := slices.Clone(arg)
		for i := range list {
			list[i].Hidden = slices.Clone(list[i].Hidden)
		}
		copied = append(copied, list)
	}
	return copied
}

// The general rules: tokens keep what they hold, and arguments share no memory with them.
func TestSplitArgumentsKeepsArguments(t *testing.T) {
	for _, line := range []string{"f(a,(b,c),) d", "f() a", "f(a b c)", "f(,)", "f(a", "f a"} {
		list := roomyTokens(t, line)
		whole := wholeTokens(list)
		first, _, _ := impl.SplitArguments(list, 1)
		want := copiedArguments(first)
		if !reflect.DeepEqual(wholeTokens(list), whole) {
			t.Fatalf("the tokens of %q are now %v", line, list)
		}
		changeArguments(first)
		if !reflect.DeepEqual(wholeTokens(list), whole) {
			t.Fatalf("the arguments of %q share memory with the tokens", line)
		}
		second, _, _ := impl.SplitArguments(list, 1)
		changeWholeTokens(list)
		if !sameArguments(second, want) {
			t.Fatalf("the arguments of %q are %v, and were %v before", line, second, want)
		}
	}
}

// The general rules: arguments and their tokens share no memory with each other, though the given tokens do.
func TestSplitArgumentsShareNothing(t *testing.T) {
	list := tokensOf(t, "(a b,c,(d,e),)")
	names := append(make([]string, 0, 4), "a", "b")
	for i := range list {
		list[i].Hidden = names
	}
	args, _, _ := impl.SplitArguments(list, 0)
	for i := range args {
		args, _, _ := impl.SplitArguments(list, 0)
		want := copiedArguments(args)
		changeWholeTokens(args[i])
		args[i], want[i] = nil, nil
		if !sameArguments(args, want) {
			t.Fatalf("argument %d shares memory with another one: %v", i, args)
		}
	}
	for i := range args[2] {
		args, _, _ := impl.SplitArguments(list, 0)
		want := copiedArguments(args)
		changeWholeTokens(args[2][i : i+1 : i+1])
		args[2][i], want[2][i] = impl.Token{}, impl.Token{}
		if !sameArguments(args, want) {
			t.Fatalf("token %d of an argument shares memory with another one: %v", i, args)
		}
	}
}

// The general rules: ArgumentsFit writes to no argument.
func TestArgumentsFitKeepsArguments(t *testing.T) {
	m := roomyMacro(t, "f(x,y) #x + y")
	args := [][]impl.Token{roomyTokens(t, "a b"), roomyTokens(t, "")}
	wantM, wantFirst, wantSecond := wholeTable([]impl.Macro{m}), wholeTokens(args[0]), wholeTokens(args[1])
	for range 2 {
		wantFit(t, m, args, true)
		wantFit(t, m, args[:1], false)
		wantFit(t, m, args[1:], false)
		if !reflect.DeepEqual(wholeTable([]impl.Macro{m}), wantM) || !reflect.DeepEqual(wholeTokens(args[0]), wantFirst) || !reflect.DeepEqual(wholeTokens(args[1]), wantSecond) {
			t.Fatalf("the macro is now %v, and the arguments are %v", m, args)
		}
	}
}
