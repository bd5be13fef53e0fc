package tests

import (
	"reflect"
	"slices"
	"strings"
	"testing"

	"loop.example/macroprocessor/impl"
)

// argumentLines returns the tokens of lines, one argument each.
func argumentLines(t *testing.T, lines ...string) [][]impl.Token {
	t.Helper()
	var args [][]impl.Token
	for _, line := range lines {
		args = append(args, tokensOf(t, line))
	}
	return args
}

// readyOf returns arguments that differ from raw ones: a ! is before each of them.
func readyOf(raw [][]impl.Token) [][]impl.Token {
	var ready [][]impl.Token
	for _, arg := range raw {
		ready = append(ready, append([]impl.Token{beside(aMark, "!")}, arg...))
	}
	return ready
}

// wantSubstituted checks Substitute of a macro and arguments that can be put in.
func wantSubstituted(t *testing.T, m impl.Macro, raw [][]impl.Token, ready [][]impl.Token, want []impl.Token) {
	t.Helper()
	got, ok := impl.Substitute(m, raw, ready)
	if !ok || !sameTokens(got, want) {
		t.Errorf("Substitute(%v, %v, %v) = %v, %v, want %v, true", m, raw, ready, got, ok, want)
	}
}

// wantNotSubstituted checks Substitute of a macro and arguments that cannot be put in.
func wantNotSubstituted(t *testing.T, m impl.Macro, raw [][]impl.Token, ready [][]impl.Token) {
	t.Helper()
	if got, ok := impl.Substitute(m, raw, ready); ok || len(got) != 0 {
		t.Errorf("Substitute(%v, %v, %v) = %v, %v, want nothing and false", m, raw, ready, got, ok)
	}
}

// substitutionCase has the line of a macro, and the lines of its raw arguments; the ready ones have a ! before them. The line of what there is then has its spaces where the tokens are Spaced.
type substitutionCase struct {
	macro string
	args  []string
	want  string
}

// checkSubstitutions checks Substitute of cases that are possible.
func checkSubstitutions(t *testing.T, cases []substitutionCase) {
	t.Helper()
	for _, c := range cases {
		raw := argumentLines(t, c.args...)
		wantSubstituted(t, macroOf(t, c.macro), raw, readyOf(raw), tokensOf(t, c.want))
	}
}

// checkNoSubstitutions checks Substitute of cases that are not possible.
func checkNoSubstitutions(t *testing.T, cases []substitutionCase) {
	t.Helper()
	for _, c := range cases {
		raw := argumentLines(t, c.args...)
		wantNotSubstituted(t, macroOf(t, c.macro), raw, readyOf(raw))
	}
}

// The kinds of what is no token yet in substitutedAnotherWay: an argument without tokens, and a ## of the body.
const (
	noTokens  = 0
	pasteSign = -1
)

// substitutedAnotherWay is another way to put arguments in: at first an argument without tokens is there as if it were a token, and when everything is in its place, every ## is taken away with what is beside it, one by one.
func substitutedAnotherWay(m impl.Macro, raw [][]impl.Token, ready [][]impl.Token) ([]impl.Token, bool) {
	var list []impl.Token
	for i, token := range m.Body {
		before, behind := "", ""
		if i > 0 {
			before = m.Body[i-1].Text
		}
		if i+1 < len(m.Body) {
			behind = m.Body[i+1].Text
		}
		param := slices.Index(m.Params, token.Text)
		switch {
		case token.Text == "##":
			list = append(list, beside(pasteSign, ""))
		case token.Text == "#" && m.Function:
			text := quoted(spacedLine(raw[slices.Index(m.Params, behind)]))
			list = append(list, impl.Token{Kind: aText, Text: text, Spaced: token.Spaced})
		case before == "#" && m.Function:
		case param < 0:
			list = append(list, token)
		case before == "##" || behind == "##":
			list = append(list, inPlaceOf(token, raw[param])...)
		default:
			list = append(list, inPlaceOf(token, ready[param])...)
		}
	}
	return withoutPasteSigns(list)
}

// inPlaceOf returns the tokens of an argument as they stand in place of a parameter.
func inPlaceOf(token impl.Token, arg []impl.Token) []impl.Token {
	if len(arg) == 0 {
		return []impl.Token{beside(noTokens, "")}
	}
	list := slices.Clone(arg)
	list[0].Spaced = token.Spaced
	return list
}

// withoutPasteSigns pastes what is at both sides of every ##, and reports whether all tokens are possible then, and not too many.
func withoutPasteSigns(list []impl.Token) ([]impl.Token, bool) {
	for i := 0; i < len(list); i++ {
		if list[i].Kind != pasteSign {
			continue
		}
		a, b := list[i-1], list[i+1]
		pasted := impl.Token{Kind: pastedKind(a, b), Text: a.Text + b.Text, Spaced: a.Spaced}
		for _, name := range a.Hidden {
			if slices.Contains(b.Hidden, name) {
				pasted.Hidden = append(pasted.Hidden, name)
			}
		}
		switch {
		case a.Kind == noTokens:
			pasted = b
		case b.Kind == noTokens:
			pasted = a
		case pasted.Kind == 0:
			return nil, false
		}
		list = slices.Replace(slices.Clone(list), i-1, i+2, pasted)
		i--
	}
	list = slices.DeleteFunc(slices.Clone(list), func(token impl.Token) bool { return token.Kind == noTokens })
	for _, token := range list {
		if len(token.Text) > impl.MaxLine {
			return nil, false
		}
	}
	return list, len(list) <= 4*impl.MaxTokens
}

// checkSubstituted compares Substitute with the other way, and reports whether the arguments can be put in.
func checkSubstituted(t *testing.T, m impl.Macro, raw [][]impl.Token, ready [][]impl.Token) bool {
	t.Helper()
	got, ok := impl.Substitute(m, raw, ready)
	want, wantOK := substitutedAnotherWay(m, raw, ready)
	if !wantOK {
		want = nil
	}
	if ok != wantOK || !sameTokens(got, want) {
		t.Fatalf("Substitute(%v, %v, %v) = %v, %v, want %v, %v", m, raw, ready, got, ok, want, wantOK)
	}
	for _, token := range got {
		if !impl.TokenValid(token) {
			t.Fatalf("Substitute(%v, %v, %v) has the token %+v", m, raw, ready, token)
		}
	}
	return ok
}

// bodiesOf returns all macros with Function, or without it, and parameters, that have at most so many of the pieces in their bodies, Spaced in one of three ways.
func bodiesOf(t *testing.T, function bool, params []string, pieces []string, most int) []impl.Macro {
	t.Helper()
	var macros []impl.Macro
	for number, list := range listsOf(pieces, most) {
		m := impl.Macro{Name: "f", Function: function, Params: params, Body: besides(t, strings.Join(list, " "))}
		for i := range m.Body {
			m.Body[i].Spaced = i > 0 && (i+number)%3 > 0
		}
		if impl.MacroValid(m) {
			macros = append(macros, m)
		}
	}
	return macros
}

// Promise 7: bodies of all sorts of tokens, and of as many as there can be, are what they were.
func TestSubstituteBodies(t *testing.T) {
	sorts := allSorts()
	for i, a := range sorts {
		for k, b := range sorts {
			b.Spaced = (i+k)%2 == 0
			for count := range 6 {
				m := impl.Macro{Name: "m", Body: slices.Repeat([]impl.Token{a, b}, count)}
				checkBodyStays(t, m)
			}
		}
		for _, count := range []int{0, 1, impl.MaxBody - 1, impl.MaxBody} {
			checkBodyStays(t, impl.Macro{Name: "m", Body: manyTokens(a, count)})
		}
	}
}

// checkBodyStays checks what promise 7 says of a macro, with Function and without it, if it has none of # and ## and no parameter.
func checkBodyStays(t *testing.T, m impl.Macro) {
	t.Helper()
	if slices.ContainsFunc(m.Body, func(token impl.Token) bool { return token.Text == "#" || token.Text == "##" }) {
		return
	}
	m.Function, m.Params = false, nil
	wantSubstituted(t, m, nil, nil, m.Body)
	wantSubstituted(t, m, [][]impl.Token{}, [][]impl.Token{}, m.Body)
	m.Function = true
	wantSubstituted(t, m, nil, nil, m.Body)
	for count, params := range [][]string{nil, {"x"}, {"x", "y"}, {"x", "y", "Z", "_a"}} {
		m.Params = params
		args := argumentsOf(len(params), count)
		wantSubstituted(t, m, args, readyOf(args), m.Body)
		wantSubstituted(t, m, readyOf(args), args, m.Body)
	}
}

// Promise 7: ordinary bodies, where names that only look like parameters are none.
func TestSubstituteBodiesOfLines(t *testing.T) {
	checkSubstitutions(t, []substitutionCase{
		{"a", nil, ""},
		{"a 1", nil, "1"},
		{"a b c", nil, "b c"},
		{"a a", nil, "a"},
		{"a (x) x", nil, "(x) x"},
		{`a "x" + x`, nil, `"x" + x`},
		{"f() x + 1", nil, "x + 1"},
		{"f() f()", nil, "f()"},
		{"f(x)", []string{"1"}, ""},
		{"f(x) 1", []string{"2"}, "1"},
		{"f(x) xx X x1 _x \"x\" y", []string{"2"}, "xx X x1 _x \"x\" y"},
		{"f(x,y) f(1, 2)", []string{"", ""}, "f(1, 2)"},
		{"f(x) a==b", []string{"+ + +"}, "a==b"},
	})
}

// Promise 7: without Function a # is no sign, and stays.
func TestSubstituteNumberSignsStay(t *testing.T) {
	for _, line := range []string{"a #", "a # #", "a #x", "a # x y", "a x#", "a 1 # \"a\" #", "a #a + #b"} {
		m := macroOf(t, line)
		wantSubstituted(t, m, nil, nil, m.Body)
	}
	checkSubstitutions(t, []substitutionCase{
		{"a # x ## y", nil, "# xy"},
		{"a x ## 1 #", nil, "x1 #"},
		{"a # ## #", nil, "##"},
		{"a 1 # ## # 2", nil, "1 ## 2"},
	})
	checkNoSubstitutions(t, []substitutionCase{{"a # ## x", nil, ""}, {"a x ## #", nil, ""}, {"a # ## # ## #", nil, ""}})
}

// Ready arguments are in place of parameters.
func TestSubstituteReadyArguments(t *testing.T) {
	checkSubstitutions(t, []substitutionCase{
		{"f(x) x", []string{"a"}, "!a"},
		{"f(x) x + x", []string{"a"}, "!a + !a"},
		{"f(x) (x)", []string{"1 + 2"}, "(!1 + 2)"},
		{"f(x,y) x+y", []string{"a", "b"}, "!a+!b"},
		{"f(x,y) y x y", []string{"a", "b"}, "!b !a !b"},
		{"f(x,y) y", []string{"a", "b c"}, "!b c"},
		{"f(a,b,c,d) d c b a", []string{"1", "2", "3", "4"}, "!4 !3 !2 !1"},
		{"f(x) f(x)", []string{"f(1)"}, "f(!f(1))"},
		{"f(x) -x-", []string{"-1"}, "-!-1-"},
	})
	m := macroOf(t, "f(x,y) x - y")
	wantSubstituted(t, m, argumentLines(t, "a", "b"), argumentLines(t, "1", "2 + 3"), tokensOf(t, "1 - 2 + 3"))
	wantSubstituted(t, m, argumentLines(t, "", ""), argumentLines(t, "1", "2"), tokensOf(t, "1 - 2"))
	wantSubstituted(t, m, argumentLines(t, "a", "b"), argumentLines(t, "", ""), []impl.Token{apart(aMark, "-")})
}

// The texts of raw arguments are in place of # and the parameter behind it.
func TestSubstituteTexts(t *testing.T) {
	checkSubstitutions(t, []substitutionCase{
		{"f(x) #x", []string{"a"}, `"a"`},
		{"f(x) # x", []string{"a"}, `"a"`},
		{"f(x) #x", []string{"a  +  b"}, `"a + b"`},
		{"f(x) #x", []string{"  a"}, `"a"`},
		{"f(x) #x", []string{`a  "b"`}, `"a \"b\""`},
		{"f(x) #x", []string{`"\"\\"`}, `"\"\\\"\\\\\""`},
		{"f(x) #x x #x", []string{"1"}, `"1" !1 "1"`},
		{"f(x,y) #y,#x", []string{"1", "2"}, `"2","1"`},
		{"f(x) (#x)", []string{"x"}, `("x")`},
		{"f(x) ( # x )", []string{"#x"}, `( "#x" )`},
		{"f(x) a = #x;", []string{"f(x, #x)"}, `a = "f(x, #x)";`},
		{"f(x) #x #x", []string{"a"}, `"a" "a"`},
		{"f(x) #x#x", []string{"a"}, `"a""a"`},
	})
	m := macroOf(t, "f(x) #x")
	wantSubstituted(t, m, [][]impl.Token{{hiding("a", "f")}}, [][]impl.Token{nil}, []impl.Token{beside(aText, `"a"`)})
	wantSubstituted(t, m, [][]impl.Token{besides(t, "a b 1 / *")}, argumentLines(t, "2"), []impl.Token{beside(aText, `"ab1/*"`)})
}

// Raw arguments are in place of parameters that are directly before or behind ##, and ready ones in place of the others.
func TestSubstitutePastedParameters(t *testing.T) {
	checkSubstitutions(t, []substitutionCase{
		{"f(x) x ## 1", []string{"a"}, "a1"},
		{"f(x) 1 ## x", []string{"a"}, "1a"},
		{"f(x) a##x", []string{"b"}, "ab"},
		{"f(x) a ## x x", []string{"b"}, "ab !b"},
		{"f(x) x x ## a", []string{"b"}, "!b ba"},
		{"f(x) x x ## a x", []string{"b"}, "!b ba !b"},
		{"f(x) x ## x", []string{"a"}, "aa"},
		{"f(x) x ## x ## x", []string{"1"}, "111"},
		{"f(x,y) x ## y z", []string{"a", "1 b"}, "a1 b z"},
		{"f(x,y) x##y", []string{"a b", "c d"}, "a bc d"},
		{"f(x,y) x##y##x", []string{"a b", "c d"}, "a bc da b"},
		{"f(x,y) x##y##x", []string{"a", "1"}, "a1a"},
		{"f(x,y) x a ## y", []string{"1", "2"}, "!1 a2"},
		{"f(x,y) x ## 1 y", []string{"a", "b"}, "a1 !b"},
		{"f(x,y) x ## y", []string{"<", "= 1"}, "<= 1"},
		{"f(x,y) x y ## = 1", []string{"a", "="}, "!a == 1"},
		{"f(a,b,c,d) a##b##c##d", []string{"p", "q 1", "2", "3 r"}, "pq 123 r"},
	})
	m := macroOf(t, "f(x,y) x x ## y y")
	wantSubstituted(t, m, argumentLines(t, "a", "b"), argumentLines(t, "1", "2"), tokensOf(t, "1 ab 2"))
}

// Tokens of the body are pasted, too.
func TestSubstitutePastedTokens(t *testing.T) {
	checkSubstitutions(t, []substitutionCase{
		{"a 1 ## 2", nil, "12"},
		{"a b ## c", nil, "bc"},
		{"a 1 ## 2 ## b", nil, "12b"},
		{"a b##1##2##c 3", nil, "b12c 3"},
		{"a b ## c d ## e", nil, "bc de"},
		{"a b ## c d##e", nil, "bc de"},
		{"a = ## =", nil, "=="},
		{"a x = ## = y", nil, "x == y"},
		{"a b a ## a", nil, "b aa"},
		{"f() a ## b", nil, "ab"},
		{"f() a ## b c", nil, "ab c"},
		{"a b## b## b## b## b## b## b## b## b## b", nil, "bbbbbbbbbb"},
	})
}

// What is not one token when it is pasted is not possible, wherever it is.
func TestSubstituteTokensNotPossible(t *testing.T) {
	checkNoSubstitutions(t, []substitutionCase{
		{"a + ## a", nil, ""},
		{"a 1 ## +", nil, ""},
		{`a "a" ## "b"`, nil, ""},
		{`a b ## ""`, nil, ""},
		{"a / ## /", nil, ""},
		{"a / ## *", nil, ""},
		{"a ! ## = ## =", nil, ""},
		{"a a ## b ## +", nil, ""},
		{"a + ## a ## b", nil, ""},
		{"a 1 ## 2 + ## 3 4 ## 5", nil, ""},
		{"a 1 2 3 4 ## (", nil, ""},
		{"a ( ## ) 1 2 3", nil, ""},
		{"f(x) x ## x", []string{"+"}, ""},
		{"f(x) x ## x", []string{`"a"`}, ""},
		{"f(x) x ## x", []string{"a -"}, ""},
		{"f(x) x ## x", []string{"- a"}, ""},
		{"f(x,y) x ## y", []string{"+", "a"}, ""},
		{"f(x,y) x ## y", []string{"a", "(b)"}, ""},
		{"f(x,y) x ## y", []string{"(a)", "b"}, ""},
		{"f(x) #x ## x", []string{"a"}, ""},
		{"f(x) x ## #x", []string{"a"}, ""},
		{"f(x) #x ## #x", []string{""}, ""},
		{"f(x,y,z) x ## y ## z", []string{"a", "", "+"}, ""},
		{"f(x,y,z) x ## y ## z", []string{"", "+", "a"}, ""},
	})
}

// A name or number that is pasted has exactly MaxName bytes at most.
func TestSubstituteNameLength(t *testing.T) {
	name, number := "abcdefghijkl", "123456789012"
	for at := 1; at < impl.MaxName; at++ {
		checkSubstitutions(t, []substitutionCase{
			{"f(x,y) x ## y", []string{name[:at], number[at:]}, name[:at] + number[at:]},
			{"f(x,y) x ## y", []string{number[:at], name[at:]}, number[:at] + name[at:]},
			{"f(x) " + name[:at] + "##x", []string{name[at:]}, name},
		})
		checkNoSubstitutions(t, []substitutionCase{
			{"f(x,y) x ## y", []string{name[:at], number[at-1:]}, ""},
			{"f(x,y) x ## y", []string{number[:at], name[at-1:]}, ""},
			{"f(x) " + name[:at] + "##x", []string{name[at-1:]}, ""},
			{"f(x,y) x ## y ## a", []string{name[:at], number[at:]}, ""},
		})
	}
}

// The text of no tokens is "", and stands beside ## as every token.
func TestSubstituteNoTokensInTexts(t *testing.T) {
	checkSubstitutions(t, []substitutionCase{
		{"f(x) #x", []string{""}, `""`},
		{"f(x) a #x b", []string{""}, `a "" b`},
		{"f(x) #x#x", []string{""}, `""""`},
		{"f(x,y) #x #y", []string{"", "1"}, `"" "1"`},
		{"f(x,y) #y ## x", []string{"", "a"}, `"a"`},
		{"f(x,y) x ## #y", []string{"", "a"}, ` "a"`},
		{"f(x,y) x ## #y ## x", []string{"", "a"}, ` "a"`},
		{"f(x,y) x##x ## #y 1", []string{"", "a"}, ` "a" 1`},
		{"f(x) #x ## x", []string{""}, `""`},
		{"f(x) x###x", []string{""}, `""`},
	})
	checkNoSubstitutions(t, []substitutionCase{{"f(x) a ## #x", []string{""}, ""}, {"f(x) #x ## a", []string{""}, ""}})
}

// If one side of ## has no tokens, the other one stays as it is; if both have none, there are none.
func TestSubstituteNoTokensPasted(t *testing.T) {
	checkSubstitutions(t, []substitutionCase{
		{"f(x) x ## x", []string{""}, ""},
		{"f(x) a ## x", []string{""}, "a"},
		{"f(x) x ## a", []string{""}, " a"},
		{"f(x) x##a", []string{""}, "a"},
		{"f(x) x ## + 1", []string{""}, " + 1"},
		{"f(x) ( ## x )", []string{""}, "( )"},
		{"f(x,y) x ## y z", []string{"", "1"}, " 1 z"},
		{"f(x,y) x ## y z", []string{"1", ""}, "1 z"},
		{"f(x,y) x ## y z", []string{"", ""}, " z"},
		{"f(x,y) x ## y", []string{"", "+ a"}, " + a"},
		{"f(x,y) x ## y", []string{"+ a", ""}, "+ a"},
		{"f(x,y) [ x ## y ]", []string{"", ""}, "[ ]"},
		{"f(x,y) [x##y]", []string{"", ""}, "[]"},
		{"f(x,y) [x ## y]", []string{"", "a"}, "[ a]"},
	})
}

// What is further on the left or on the right is not pasted when a side has no tokens.
func TestSubstituteNoTokensBetween(t *testing.T) {
	checkSubstitutions(t, []substitutionCase{
		{"f(x) a x ## 1", []string{""}, "a 1"},
		{"f(x) 1 ## x a", []string{""}, "1 a"},
		{"f(x) + x ## a", []string{""}, "+ a"},
		{"f(x) a ## x +", []string{""}, "a +"},
		{"f(x,y) a x ## y 1", []string{"", ""}, "a 1"},
		{"f(x,y) a ## x y ## b", []string{"", ""}, "a b"},
		{"f(x,y) a ## x y ## b", []string{"1", ""}, "a1 b"},
		{"f(x,y) a b ## x c y ## d e", []string{"", ""}, "a b c d e"},
		{"f(x) x ## x x ## x", []string{""}, ""},
		{"f(x) a x##x 1 x##x b", []string{""}, "a 1 b"},
	})
}

// In a row of ## each one has on its left what those before have left there.
func TestSubstituteNoTokensInRows(t *testing.T) {
	m := macroOf(t, "f(x,y,z) (x##y##z)")
	for _, x := range []string{"", "a", "1 b"} {
		for _, y := range []string{"", "c", "2 d"} {
			for _, z := range []string{"", "e", "3 f"} {
				raw := argumentLines(t, x, y, z)
				wantSubstituted(t, m, raw, readyOf(raw), tokensOf(t, "("+x+y+z+")"))
			}
		}
	}
	checkSubstitutions(t, []substitutionCase{
		{"f(x,y) a ## x ## y ## 1", []string{"", ""}, "a1"},
		{"f(x,y) a ## x ## y ## 1", []string{"", "b c"}, "ab c1"},
		{"f(x,y) x ## y ## x ## y", []string{"", ""}, ""},
		{"f(x,y) x ## y ## x ## 1", []string{"", ""}, " 1"},
		{"f(x,y) 1 ## x ## y ## x", []string{"", ""}, "1"},
		{"f(x,y) x ## y ## x ## y", []string{"a", ""}, "aa"},
	})
	checkNoSubstitutions(t, []substitutionCase{{"f(x) a ## x ## +", []string{""}, ""}, {"f(x) + ## x ## x ## a", []string{""}, ""}})
}

// Arguments without tokens, raw ones or ready ones, leave what is beside them.
func TestSubstituteNoReadyTokens(t *testing.T) {
	none, one := [][]impl.Token{nil}, argumentLines(t, "1")
	for _, raw := range [][][]impl.Token{none, {{}}, one, argumentLines(t, "+")} {
		for _, ready := range [][][]impl.Token{none, {{}}} {
			wantSubstituted(t, macroOf(t, "f(x) x"), raw, ready, nil)
			wantSubstituted(t, macroOf(t, "f(x) x x"), raw, ready, nil)
			wantSubstituted(t, macroOf(t, "f(x) a x b"), raw, ready, tokensOf(t, "a b"))
			wantSubstituted(t, macroOf(t, "f(x) x b"), raw, ready, tokensOf(t, " b"))
			wantSubstituted(t, macroOf(t, "f(x) (x)"), raw, ready, tokensOf(t, "()"))
		}
	}
	wantSubstituted(t, macroOf(t, "f(x) x x ## a #x"), none, one, tokensOf(t, `1 a ""`))
	wantSubstituted(t, macroOf(t, "f(x) x a ## x #x"), one, none, tokensOf(t, ` a1 "1"`))
}

// The first token of what is put in is Spaced as what it stands for, and the others as they were.
func TestSubstituteSpaced(t *testing.T) {
	for spaces := range 4 {
		arg := []impl.Token{beside(aName, "p"), beside(aNumber, "1"), apart(aMark, "+")}
		arg[0].Spaced = spaces%2 == 1
		args := [][]impl.Token{arg}
		first := impl.Token{Kind: aName, Text: "x", Spaced: spaces >= 2}
		put := impl.Token{Kind: aName, Text: "p", Spaced: first.Spaced}
		text := impl.Token{Kind: aText, Text: `"p1 +"`, Spaced: first.Spaced}
		sign := impl.Token{Kind: aMark, Text: "#", Spaced: first.Spaced}
		rest := arg[1:]
		bodies := [][2][]impl.Token{
			{{first}, append([]impl.Token{put}, rest...)},
			{{sign, beside(aName, "x")}, {text}},
			{{sign, apart(aName, "x")}, {text}},
			{{first, apart(aMark, "##"), beside(aMark, "=")}, nil},
			{{first, beside(aMark, "##"), apart(aName, "y")}, append([]impl.Token{put}, rest...)},
			{{beside(aName, "y"), beside(aMark, "##"), first}, append([]impl.Token{put}, rest...)},
			{{apart(aName, "y"), apart(aMark, "##"), first}, append([]impl.Token{put}, rest...)},
			{{apart(aName, "q"), apart(aMark, "##"), first}, append([]impl.Token{apart(aName, "qp")}, rest...)},
			{{beside(aName, "q"), apart(aMark, "##"), first}, append([]impl.Token{beside(aName, "qp")}, rest...)},
			{{impl.Token{Kind: aMark, Text: "(", Spaced: first.Spaced}}, {impl.Token{Kind: aMark, Text: "(", Spaced: first.Spaced}}},
		}
		for _, body := range bodies {
			m := impl.Macro{Name: "f", Function: true, Params: []string{"x", "y"}, Body: append([]impl.Token{beside(aMark, ";")}, body[0]...)}
			raw := append(args, nil)
			if body[1] == nil {
				wantNotSubstituted(t, m, raw, raw)
				continue
			}
			wantSubstituted(t, m, raw, raw, append([]impl.Token{beside(aMark, ";")}, body[1]...))
		}
	}
}

// Every token that is put in keeps its Hidden names, and one that is pasted has those of both.
func TestSubstituteHidden(t *testing.T) {
	raw := [][]impl.Token{{withNames(beside(aName, "p"), "a", "b"), withNames(apart(aName, "q"), "b", "c")}, {withNames(beside(aNumber, "1"), "b", "d"), withNames(apart(aMark, "+"), "f")}}
	ready := [][]impl.Token{{withNames(beside(aName, "r"), "e", "f")}, {withNames(beside(aName, "s"), manyNames(impl.MaxTokens)...)}}
	r, s := ready[0][0], ready[1][0]
	cases := []struct {
		macro string
		want  []impl.Token
	}{
		{"f(x,y) x", []impl.Token{r}},
		{"f(x,y) x,y,x", []impl.Token{r, beside(aMark, ","), s, beside(aMark, ","), r}},
		{"f(x,y) #x", []impl.Token{beside(aText, `"p q"`)}},
		{"f(x,y) x##y", []impl.Token{raw[0][0], withNames(apart(aName, "q1"), "b"), raw[1][1]}},
		{"f(x,y) x##a", []impl.Token{raw[0][0], apart(aName, "qa")}},
		{"f(x,y) a##x", []impl.Token{beside(aName, "ap"), raw[0][1]}},
		{"f(x,y) x##x", []impl.Token{raw[0][0], withNames(apart(aName, "qp"), "b"), raw[0][1]}},
		{"f(x,y) x##x##y", []impl.Token{raw[0][0], withNames(apart(aName, "qp"), "b"), withNames(apart(aName, "q1"), "b"), raw[1][1]}},
	}
	for _, c := range cases {
		wantSubstituted(t, macroOf(t, c.macro), raw, ready, c.want)
	}
	one := [][]impl.Token{{withNames(beside(aName, "p"), "a", "b", "c")}, {withNames(beside(aName, "q"), "b", "c")}, {withNames(beside(aName, "r"), "a", "c")}, nil}
	wantSubstituted(t, macroOf(t, "f(x,y,z,w) x##y##z"), one, one, []impl.Token{withNames(beside(aName, "pqr"), "c")})
	wantSubstituted(t, macroOf(t, "f(x,y,z,w) x##w"), one, one, []impl.Token{one[0][0]})
	wantSubstituted(t, macroOf(t, "f(x,y,z,w) w##x##w##y"), one, one, []impl.Token{withNames(beside(aName, "pq"), "b", "c")})
}

// What is put in is not looked at again: parameters, # and ## of arguments, and those that are pasted, are only tokens.
func TestSubstituteOnce(t *testing.T) {
	checkSubstitutions(t, []substitutionCase{
		{"f(x) x", []string{"x"}, "!x"},
		{"f(x) x", []string{"#x"}, "!#x"},
		{"f(x) x", []string{"a ## b"}, "!a ## b"},
		{"f(x) x", []string{"##"}, "!##"},
		{"f(x,y) x y", []string{"y", "x"}, "!y !x"},
		{"f(x,y) x ## 1 y", []string{"y", "x"}, "y1 !x"},
		{"f(x,y) #x #y", []string{"y", "#x"}, `"y" "#x"`},
		{"f(x,y,xy) x ## y", []string{"x", "y", "1"}, "xy"},
		{"f(x,xy) x ## y", []string{"x", "1"}, "xy"},
		{"f(x,y) x ## y z", []string{"#", "#"}, "## z"},
		{"f(x,y) 1 x ## y 2", []string{"#", "#"}, "1 ## 2"},
		{"f(x,y) 1 x ## y 2", []string{"##", ""}, "1 ## 2"},
		{"f(x,y) 1 x ## y 2", []string{"", "##"}, "1 ## 2"},
		{"f(x,y) 1 x ## y y", []string{"", "##"}, "1 ## !##"},
		{"f(x) x ## x", []string{"# #"}, "# ## #"},
		{"f(x,y) x ## y x", []string{"#", ""}, "# !#"},
		{"f(x,y) x y", []string{"#", "a"}, "!# !a"},
	})
	m := macroOf(t, "f(x,y) x y x")
	wantSubstituted(t, m, argumentLines(t, "", ""), argumentLines(t, "##", "y"), tokensOf(t, "## y ##"))
	wantSubstituted(t, m, argumentLines(t, "", ""), argumentLines(t, "#", "x"), tokensOf(t, "# x #"))
}

// A text has exactly MaxLine bytes at most.
func TestSubstituteTextLength(t *testing.T) {
	long := manyTokens(beside(aName, "abcdefghijkl"), 16)
	fits := append(slices.Clone(long), beside(aName, "abcdef"))
	tooLong := append(slices.Clone(long), beside(aName, "abcdefg"))
	for _, c := range [][2]string{{"f(x) #x", ""}, {"f(x) #x;", ";"}, {"f(x) #x + 1", " + 1"}} {
		m := macroOf(t, c[0])
		want := append([]impl.Token{beside(aText, quoted(spacedLine(fits)))}, tokensOf(t, c[1])...)
		wantSubstituted(t, m, [][]impl.Token{fits}, [][]impl.Token{nil}, want)
		wantNotSubstituted(t, m, [][]impl.Token{tooLong}, [][]impl.Token{nil})
		wantNotSubstituted(t, m, [][]impl.Token{append(slices.Clone(fits), beside(aMark, "("))}, [][]impl.Token{fits})
	}
	wantSubstituted(t, macroOf(t, "f(x) #x"), [][]impl.Token{{textOf(196)}}, [][]impl.Token{nil}, []impl.Token{beside(aText, quoted(textOf(196).Text))})
	wantNotSubstituted(t, macroOf(t, "f(x) #x"), [][]impl.Token{{textOf(197)}}, [][]impl.Token{nil})
	// Only arguments that stand behind # need to have a text.
	wantSubstituted(t, macroOf(t, "f(x) 1"), [][]impl.Token{tooLong}, [][]impl.Token{tooLong}, besides(t, "1"))
	wantSubstituted(t, macroOf(t, "f(x) x"), [][]impl.Token{tooLong}, [][]impl.Token{tooLong}, tooLong)
	wantSubstituted(t, macroOf(t, "f(x,y) #x"), [][]impl.Token{fits, tooLong}, [][]impl.Token{nil, nil}, []impl.Token{beside(aText, quoted(spacedLine(fits)))})
	wantNotSubstituted(t, macroOf(t, "f(x,y) #x 1 #y"), [][]impl.Token{fits, tooLong}, [][]impl.Token{nil, nil})
}

// There are exactly 4*MaxTokens tokens at most.
func TestSubstituteMany(t *testing.T) {
	for count := range impl.MaxBody + 1 {
		for _, each := range []int{1, 11, 12, 13, 15, 16, 30, 48, 49, 59, impl.MaxTokens} {
			arg := [][]impl.Token{manyTokens(apart(aName, "a"), each)}
			m := impl.Macro{Name: "f", Function: true, Params: []string{"x"}, Body: manyTokens(apart(aName, "x"), count)}
			if count > 0 {
				m.Body[0].Spaced = false
			}
			want := manyTokens(apart(aName, "a"), count*each)
			if count*each > 4*impl.MaxTokens {
				wantNotSubstituted(t, m, arg, arg)
				continue
			}
			if count > 0 {
				want[0].Spaced = false
			}
			wantSubstituted(t, m, arg, arg, want)
			wantSubstituted(t, m, [][]impl.Token{nil}, arg, want)
		}
	}
	full := [][]impl.Token{manyTokens(apart(aMark, "+"), impl.MaxTokens), nil}
	for _, c := range []string{"f(x,y) x x x x", "f(x,y) x x x x y y", "f(x,y) y x x x x", "f(x,y) x x y x x y##y"} {
		if got, ok := impl.Substitute(macroOf(t, c), full, full); !ok || len(got) != 4*impl.MaxTokens {
			t.Errorf("for %q there are %d tokens, %v", c, len(got), ok)
		}
		wantNotSubstituted(t, macroOf(t, c+" 1"), full, full)
		wantNotSubstituted(t, macroOf(t, c+" #y"), full, full)
		wantNotSubstituted(t, macroOf(t, c+" x"), full, full)
	}
}

// What is pasted is counted as one token, though there are more than 4*MaxTokens before.
func TestSubstituteManyPasted(t *testing.T) {
	full := [][]impl.Token{manyTokens(apart(aName, "a"), impl.MaxTokens), manyTokens(apart(aName, "b"), 4)}
	for line, want := range map[string]int{
		"f(x,y) x##x##x##x":            237,
		"f(x,y) x##x##x##x 1 2":        239,
		"f(x,y) x##x##x##x 1 2 3":      240,
		"f(x,y) x##x##x##x 1 2 3 #x":   0,
		"f(x,y) x##x##x##x 1 2 3 4":    0,
		"f(x,y) 1 2 3 x##x##x##x":      240,
		"f(x,y) 1 2 3 4 x##x##x##x":    0,
		"f(x,y) x##x##x##x##y":         240,
		"f(x,y) y##x##x##x##x":         240,
		"f(x,y) x##x##x##x##y 1":       0,
		"f(x,y) x##x##x##x##y ## y":    0,
		"f(x,y) x##1 x##2 x##3 x##4":   240,
		"f(x,y) x##1 x##2 x##3 x##4#x": 0,
		"f(x,y) x##1##x x##2##x":       238,
		"f(x,y) x##1##x x##2##x 3 #y":  240,
		"f(x,y) x##1##x x##2##x y":     0,
	} {
		m := macroOf(t, line)
		got, ok := impl.Substitute(m, full, full)
		if ok != (want > 0) || len(got) != want {
			t.Errorf("for %q there are %d tokens, %v, want %d", line, len(got), ok, want)
		}
		checkSubstituted(t, m, full, full)
	}
}

// All bodies of a few pieces, with all arguments of a few kinds.
func TestSubstituteAnotherWay(t *testing.T) {
	choices := argumentLines(t, "", "a", " 1 b", "=", `# "t"`)
	choices[2][0].Hidden, choices[2][1].Hidden, choices[1][0].Hidden = []string{"p", "q"}, []string{"q", "r"}, []string{"q"}
	possible, not := 0, 0
	for _, m := range bodiesOf(t, true, []string{"x", "y"}, []string{"x", "y", "# x", "##", "a", "="}, 5) {
		for i, x := range choices {
			for k, y := range choices {
				ready := [][]impl.Token{choices[(i+2*k+1)%len(choices)], choices[(i*3+k)%len(choices)]}
				if checkSubstituted(t, m, [][]impl.Token{x, y}, ready) {
					possible++
				} else {
					not++
				}
			}
		}
	}
	if possible < 10000 || not < 10000 {
		t.Errorf("%d are possible, and %d are not", possible, not)
	}
}

// All bodies of a few pieces, with Function and without it, and no parameters.
func TestSubstituteAnotherWayWithoutParams(t *testing.T) {
	possible, not := 0, 0
	for _, function := range []bool{false, true} {
		for _, m := range bodiesOf(t, function, nil, []string{"#", "##", "x", "1", "=", `"x"`}, 5) {
			if checkSubstituted(t, m, nil, nil) {
				possible++
			} else {
				not++
			}
		}
	}
	if possible < 1000 || not < 1000 {
		t.Errorf("%d are possible, and %d are not", possible, not)
	}
}

// Longer rows of ## than all bodies of a few pieces have, up to MaxBody tokens.
func TestSubstituteAnotherWayRows(t *testing.T) {
	choices := argumentLines(t, "", "a", "1", "a 1", " b", "1 = 2")
	words := []string{"x", "y", "#y", "a", "1", "z"}
	possible, not := 0, 0
	for number := range 6000 {
		var pieces []string
		for i := range 2 + number%9 {
			pieces = append(pieces, words[(number/(i+1)+i*i)%len(words)])
		}
		separators := []string{" ## ", "##", " "}
		line := "f(x,y,z) " + pieces[0]
		for i, piece := range pieces[1:] {
			line += separators[(number/7+i*i*number)%3] + piece
		}
		list := tokensOf(t, line)
		m, ok := impl.MacroOf(list)
		if !ok {
			continue
		}
		raw := [][]impl.Token{choices[number%6], choices[number/6%6], choices[number/36%6]}
		if checkSubstituted(t, m, raw, readyOf(raw)) {
			possible++
		} else {
			not++
		}
	}
	if possible < 1000 || not < 1000 {
		t.Errorf("%d are possible, and %d are not", possible, not)
	}
}

// A list is there for every parameter, and none more.
func TestSubstituteCounts(t *testing.T) {
	for _, line := range []string{"a", "a 1", "a 1 ## 2", "f()", "f() 1", "f(x)", "f(x) 1", "f(x) x", "f(x) #x", "f(x) x ## x", "f(x,y) 1", "f(x,y) x y", "f(w,x,y,z) w", "f(w,x,y,z) #z"} {
		m := macroOf(t, line)
		for first := range 3 {
			for raw := range impl.MaxParams + 3 {
				for ready := range impl.MaxParams + 3 {
					if raw == len(m.Params) && ready == len(m.Params) {
						checkSubstituted(t, m, argumentsOf(raw, first), argumentsOf(ready, first))
						continue
					}
					wantNotSubstituted(t, m, argumentsOf(raw, first), argumentsOf(ready, first))
				}
			}
		}
	}
	// SplitArguments has one argument without tokens for (), but there is no parameter for it.
	none := [][]impl.Token{nil}
	for _, m := range []impl.Macro{macroOf(t, "f() 1"), macroOf(t, "a 1")} {
		wantNotSubstituted(t, m, none, none)
		wantNotSubstituted(t, m, none, nil)
		wantNotSubstituted(t, m, nil, none)
	}
}

// With a token that is not valid, in any list, nothing is put in, though the list is not needed.
func TestSubstituteInvalidTokens(t *testing.T) {
	good := argumentLines(t, "a", "1")
	for _, line := range []string{"f(x,y)", "f(x,y) 1", "f(x,y) x", "f(x,y) y", "f(x,y) #x", "f(x,y) x ## y", "f(x,y) x #y"} {
		m := macroOf(t, line)
		for _, wrong := range wrongTokens() {
			for _, list := range [][]impl.Token{{wrong}, {beside(aName, "a"), wrong}, {wrong, apart(aName, "a")}, manyTokens(wrong, 2)} {
				for at := range 2 {
					bad := slices.Clone(good)
					bad[at] = list
					wantNotSubstituted(t, m, bad, good)
					wantNotSubstituted(t, m, good, bad)
					wantNotSubstituted(t, m, bad, bad)
				}
			}
		}
	}
}

// A list has exactly MaxTokens tokens at most.
func TestSubstituteLongLists(t *testing.T) {
	for _, token := range []impl.Token{beside(aMark, "("), apart(aName, "a")} {
		good := [][]impl.Token{manyTokens(token, impl.MaxTokens), manyTokens(token, impl.MaxTokens)}
		for _, line := range []string{"f(x,y)", "f(x,y) 1", "f(x,y) x", "f(x,y) y", "f(x,y) #x", "f(x,y) x y"} {
			m := macroOf(t, line)
			checkSubstituted(t, m, good, good)
			for at := range 2 {
				bad := slices.Clone(good)
				bad[at] = manyTokens(token, impl.MaxTokens+1)
				wantNotSubstituted(t, m, bad, good)
				wantNotSubstituted(t, m, good, bad)
				wantNotSubstituted(t, m, bad, bad)
			}
		}
	}
}

// Into a macro that is not valid nothing is put.
func TestSubstituteInvalidMacros(t *testing.T) {
	list := wrongMacros()
	for _, body := range []string{"##", "## x", "x ##", "x ## ## x", "#", "x #", "# 1", "# y", "# # x", "# ## x", "x ## #", "a # a"} {
		list = append(list, functionMacro(t, "f", []string{"x"}, body))
	}
	for _, body := range []string{"##", "## x", "x ##", "x ## ## x", " x", "# ## ##"} {
		list = append(list, plainMacro(t, "a", body))
	}
	for _, m := range list {
		if impl.MacroValid(m) {
			t.Fatalf("%v is valid", m)
		}
		for count := range impl.MaxParams + 2 {
			wantNotSubstituted(t, m, argumentsOf(count, 1), argumentsOf(count, 1))
		}
	}
	// The arguments would be put into the same body of a valid macro.
	body := tokensOf(t, "x + 1")
	args := argumentLines(t, "1")
	wantSubstituted(t, impl.Macro{Name: "f", Function: true, Params: []string{"x"}, Body: body}, args, args, tokensOf(t, "1 + 1"))
	for _, name := range []string{"", "defined", "1", "f ", "abcdefghijklm"} {
		wantNotSubstituted(t, impl.Macro{Name: name, Function: true, Params: []string{"x"}, Body: body}, args, args)
	}
	wantNotSubstituted(t, impl.Macro{Name: "f", Params: []string{"x"}, Body: body}, args, args)
}

// roomyArguments returns arguments with Hidden names, and with spare capacity wherever there can be some.
func roomyArguments(t *testing.T, lines ...string) [][]impl.Token {
	t.Helper()
	args := make([][]impl.Token, 0, 6)
	for _, line := range lines {
		args = append(args, roomyTokens(t, line))
	}
	return args
}

// wholeArguments returns a copy of arguments, with their spare capacity.
func wholeArguments(args [][]impl.Token) [][]impl.Token {
	var whole [][]impl.Token
	for _, arg := range args[:cap(args)] {
		whole = append(whole, wholeTokens(arg))
	}
	return whole
}

// The general rules: arguments are not written to, results share no memory with them, and no state is kept.
func TestSubstituteKeepsArguments(t *testing.T) {
	for _, line := range []string{"f(x,y) x", "f(x,y) 1 + x y", "f(x,y) x##y", "f(x,y) x ## y ## x", "f(x,y) x##b", "f(x,y) #x y", "f(x,y) b##x", "f(x,y) b ## c", "f(x,y) b", "f(x,y) y x##y#x ## z"} {
		for _, lines := range [][]string{{"a 1 b", "c 2 d"}, {"", "c 2 d"}, {"a 1 b", ""}, {"", ""}, {"a +", "+ b"}} {
			m := roomyMacro(t, line)
			raw, ready := roomyArguments(t, lines...), roomyArguments(t, "1 a 2", "+ 3 b")
			wantMacro, wantRaw, wantReady := wholeTable([]impl.Macro{m}), wholeArguments(raw), wholeArguments(ready)
			first, ok := impl.Substitute(m, raw, ready)
			want := copiedArguments([][]impl.Token{first})[0]
			changeWholeTokens(first)
			if !reflect.DeepEqual(wholeTable([]impl.Macro{m}), wantMacro) || !reflect.DeepEqual(wholeArguments(raw), wantRaw) || !reflect.DeepEqual(wholeArguments(ready), wantReady) {
				t.Fatalf("for %q the arguments are now %v, %v and %v", line, m, raw, ready)
			}
			second, again := impl.Substitute(m, raw, ready)
			changeWholeMacro(m)
			changeArguments(raw)
			changeArguments(ready)
			if ok != again || !sameTokens(second, want) {
				t.Fatalf("for %q there is %v, %v, and was %v, %v before", line, second, again, want, ok)
			}
		}
	}
}

// The general rules: the tokens of a result share no memory with each other, though an argument is there more than once.
func TestSubstituteSharesNothing(t *testing.T) {
	for _, line := range []string{"f(x) x x", "f(x) x##x##x", "f(x) x x##1 1##x #x"} {
		args := roomyArguments(t, "a 1 b c d e")
		list, ok := impl.Substitute(macroOf(t, line), args, args)
		if !ok {
			t.Fatalf("for %q Substitute is false", line)
		}
		for i := range list {
			got, _ := impl.Substitute(macroOf(t, line), args, args)
			changeWholeTokens(got[i : i+1 : i+1])
			got[i] = list[i]
			if !sameTokens(got, list) {
				t.Fatalf("for %q token %d shares memory with another one: %v", line, i, got)
			}
		}
	}
}
