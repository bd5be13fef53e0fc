package tests

import (
	"reflect"
	"regexp"
	"slices"
	"strings"
	"testing"

	"loop.example/macroprocessor/impl"
)

// plainMacro returns a macro without Function, whose body is that of a line.
func plainMacro(t *testing.T, name string, body string) impl.Macro {
	t.Helper()
	return impl.Macro{Name: name, Body: tokensOf(t, body)}
}

// functionMacro returns a macro with Function, whose body is that of a line.
func functionMacro(t *testing.T, name string, params []string, body string) impl.Macro {
	t.Helper()
	return impl.Macro{Name: name, Function: true, Params: params, Body: tokensOf(t, body)}
}

// tokensOf returns the tokens of a line that has tokens.
func tokensOf(t *testing.T, line string) []impl.Token {
	t.Helper()
	list, ok := impl.TokensOf(line)
	if !ok {
		t.Fatalf("TokensOf(%q) is false", line)
	}
	return list
}

// sameMacros is a way to compare macros where no parameters and no body are the same as nil.
func sameMacros(a impl.Macro, b impl.Macro) bool {
	return a.Name == b.Name && a.Function == b.Function && slices.Equal(a.Params, b.Params) && sameTokens(a.Body, b.Body)
}

// isNoMacro reports whether a macro is the zero value.
func isNoMacro(m impl.Macro) bool {
	return sameMacros(m, impl.Macro{})
}

// wantMacroValid checks MacroValid, and that MacroText takes no macro that is not valid.
func wantMacroValid(t *testing.T, m impl.Macro, want bool) {
	t.Helper()
	if impl.MacroValid(m) != want {
		t.Errorf("MacroValid(%v) = %v, want %v", m, !want, want)
	}
	if !want {
		wantNoMacroText(t, m)
	}
}

// wantNoMacroText checks MacroText of a macro without a text.
func wantNoMacroText(t *testing.T, m impl.Macro) {
	t.Helper()
	if got, ok := impl.MacroText(m); ok || got != "" {
		t.Errorf("MacroText(%v) = %q, %v, want nothing and false", m, got, ok)
	}
}

// wantMacro checks MacroOf of tokens that define a macro.
func wantMacro(t *testing.T, list []impl.Token, want impl.Macro) {
	t.Helper()
	got, ok := impl.MacroOf(list)
	if !ok || !sameMacros(got, want) {
		t.Errorf("MacroOf(%v) = %v, %v, want %v, true", list, got, ok, want)
	}
	wantMacroValid(t, got, true)
}

// wantNoMacro checks MacroOf of tokens that define no macro.
func wantNoMacro(t *testing.T, list []impl.Token) {
	t.Helper()
	if got, ok := impl.MacroOf(list); ok || !isNoMacro(got) {
		t.Errorf("MacroOf(%v) = %v, %v, want nothing and false", list, got, ok)
	}
}

// macroLine is another way to write a macro that is valid.
func macroLine(m impl.Macro) string {
	line := m.Name
	if m.Function {
		line += "("
		for i, name := range m.Params {
			if i > 0 {
				line += ","
			}
			line += name
		}
		line += ")"
	}
	if len(m.Body) == 0 {
		return line
	}
	return line + " " + printedLine(m.Body)
}

// checkMacroText checks what promises 4 and 54 say of a valid macro.
func checkMacroText(t *testing.T, m impl.Macro) {
	t.Helper()
	wantMacroValid(t, m, true)
	want := macroLine(m)
	if len(want) > impl.MaxLine {
		wantNoMacroText(t, m)
		return
	}
	text, ok := impl.MacroText(m)
	if !ok || text != want {
		t.Fatalf("MacroText(%v) = %q, %v, want %q, true", m, text, ok, want)
	}
	again, ok := impl.MacroOf(tokensOf(t, text))
	if !ok || again.Name != m.Name || again.Function != m.Function || !slices.Equal(again.Params, m.Params) || !sameKindsAndTexts(again.Body, m.Body) {
		t.Fatalf("the text %q of %v defines %v, %v", text, m, again, ok)
	}
	if twice, ok := impl.MacroText(again); !ok || twice != text || !impl.MacroValid(again) {
		t.Fatalf("the macro of the text %q has the text %q, %v", text, twice, ok)
	}
}

func TestConstantsOfMacros(t *testing.T) {
	if impl.MaxParams != 4 || impl.MaxBody != 20 {
		t.Errorf("the constants of macros are %v and %v", impl.MaxParams, impl.MaxBody)
	}
}

// Promise 54: ordinary macros, with and without Function, parameters and a body.
func TestMacroOfLines(t *testing.T) {
	wantMacro(t, tokensOf(t, "a"), impl.Macro{Name: "a"})
	wantMacro(t, tokensOf(t, "a 1"), plainMacro(t, "a", "1"))
	wantMacro(t, tokensOf(t, "a b c"), plainMacro(t, "a", "b c"))
	wantMacro(t, tokensOf(t, `a "b c"+1`), plainMacro(t, "a", `"b c"+1`))
	wantMacro(t, tokensOf(t, "f()"), impl.Macro{Name: "f", Function: true})
	wantMacro(t, tokensOf(t, "f() 1"), functionMacro(t, "f", nil, "1"))
	wantMacro(t, tokensOf(t, "f(x)"), functionMacro(t, "f", []string{"x"}, ""))
	wantMacro(t, tokensOf(t, "f(x) x + x"), functionMacro(t, "f", []string{"x"}, "x + x"))
	wantMacro(t, tokensOf(t, "f(x)x+x"), functionMacro(t, "f", []string{"x"}, "x+x"))
	wantMacro(t, tokensOf(t, "f(x,y) (x) * (y)"), functionMacro(t, "f", []string{"x", "y"}, "(x) * (y)"))
	wantMacro(t, tokensOf(t, "f(d,c,b,a) a"), functionMacro(t, "f", []string{"d", "c", "b", "a"}, "a"))
	wantMacro(t, tokensOf(t, "f(x) #x"), functionMacro(t, "f", []string{"x"}, "#x"))
	wantMacro(t, tokensOf(t, "f(x,y) x##y"), functionMacro(t, "f", []string{"x", "y"}, "x##y"))
	wantMacro(t, tokensOf(t, "f() ()"), functionMacro(t, "f", nil, "()"))
	wantMacro(t, tokensOf(t, "f()()"), functionMacro(t, "f", nil, "()"))
	wantMacro(t, tokensOf(t, "f(x))"), functionMacro(t, "f", []string{"x"}, ")"))
	wantMacro(t, tokensOf(t, "a )"), plainMacro(t, "a", ")"))
	wantMacro(t, tokensOf(t, "a)"), plainMacro(t, "a", ")"))
	wantMacro(t, tokensOf(t, "a,b"), plainMacro(t, "a", ",b"))
}

// Promise 54: a ( behind the name begins parameters exactly if it is not Spaced.
func TestMacroOfSpacedParenthesis(t *testing.T) {
	wantMacro(t, tokensOf(t, "a (x)"), plainMacro(t, "a", "(x)"))
	wantMacro(t, tokensOf(t, "a   (x) x"), plainMacro(t, "a", "(x) x"))
	wantMacro(t, tokensOf(t, "a ()"), plainMacro(t, "a", "()"))
	wantMacro(t, tokensOf(t, "a ("), plainMacro(t, "a", "("))
	wantMacro(t, tokensOf(t, "a (x,x) #1"), plainMacro(t, "a", "(x,x) #1"))
	wantMacro(t, tokensOf(t, "a ( x"), plainMacro(t, "a", "( x"))
	wantMacro(t, tokensOf(t, `a"(" x`), plainMacro(t, "a", `"(" x`))
	wantMacro(t, tokensOf(t, "a+(x)"), plainMacro(t, "a", "+(x)"))
	wantMacro(t, tokensOf(t, "a[x]"), plainMacro(t, "a", "[x]"))
	wantNoMacro(t, tokensOf(t, "a("))
	wantNoMacro(t, tokensOf(t, "a(x,x) #1"))
}

// Promise 54: spaces do not matter before the name, and in the parameters; in the body they stay, but for those before it.
func TestMacroOfSpaces(t *testing.T) {
	want := functionMacro(t, "f", []string{"x", "y"}, "x + y")
	for _, line := range []string{"f(x,y) x + y", " f(x,y) x + y", "f(x,y)x + y", "f( x , y ) x + y", "f(x ,y )  x  +  y ", "  f(  x,  y)   x + y"} {
		wantMacro(t, tokensOf(t, line), want)
	}
	wantMacro(t, tokensOf(t, "f( )"), functionMacro(t, "f", nil, ""))
	wantMacro(t, tokensOf(t, " f(  ) x"), functionMacro(t, "f", nil, "x"))
	wantMacro(t, []impl.Token{apart(aName, "a"), apart(aName, "b"), apart(aName, "c"), beside(aMark, "+")},
		impl.Macro{Name: "a", Body: []impl.Token{beside(aName, "b"), apart(aName, "c"), beside(aMark, "+")}})
	wantMacro(t, []impl.Token{beside(aName, "a"), beside(aName, "b"), beside(aName, "c")},
		impl.Macro{Name: "a", Body: []impl.Token{beside(aName, "b"), beside(aName, "c")}})
}

// Promise 54: Hidden names of tokens are not in the macro.
func TestMacroOfHidden(t *testing.T) {
	list := tokensOf(t, "f(x,y) x + #y")
	for i := range list {
		list[i].Hidden = manyNames(i + 1)
	}
	wantMacro(t, list, functionMacro(t, "f", []string{"x", "y"}, "x + #y"))
	wantMacro(t, []impl.Token{hiding("a", "b")}, impl.Macro{Name: "a"})
	wantMacro(t, []impl.Token{hiding("a"), hiding("b"), hiding()}, impl.Macro{Name: "a", Body: []impl.Token{beside(aName, "a"), beside(aName, "a")}})
	got, ok := impl.MacroOf(list)
	if !ok || slices.ContainsFunc(got.Body, func(token impl.Token) bool { return len(token.Hidden) > 0 }) {
		t.Errorf("MacroOf(%v) = %v, %v, with Hidden names", list, got, ok)
	}
}

// Promise 53: the name is a name other than defined.
func TestMacroNames(t *testing.T) {
	for _, name := range []string{"a", "Z", "_", "a1", "_1", "__", "define", "define_", "Defined", "DEFINED", "definedx", "_defined", "abcdefghijkl"} {
		for _, m := range []impl.Macro{{Name: name}, {Name: name, Function: true}, plainMacro(t, name, "1"), functionMacro(t, name, []string{"x"}, "x")} {
			wantMacroValid(t, m, true)
			wantMacro(t, tokensOf(t, macroLine(m)), m)
		}
	}
	for _, name := range []string{"", "1", "0", "12x", "1a", "defined", "+", "(", "##", `""`, `"a"`, " ", "a ", " a", "a b", "a+", "a(", "a-b", "abcdefghijklm", "a\n", "\u00e9", "a\x00"} {
		for _, m := range []impl.Macro{{Name: name}, {Name: name, Function: true}, plainMacro(t, name, "1"), functionMacro(t, name, []string{"x"}, "x")} {
			wantMacroValid(t, m, false)
		}
	}
	for _, line := range []string{"1", "1 a", "1(x) x", "defined", "defined 1", "defined() 1", "defined(x) x", "+", "+ a", "(", "(x)", "#", "# a", `"a"`, `"a" b`, `"a"(x) x`} {
		wantNoMacro(t, tokensOf(t, line))
	}
}

// Promise 53: a valid macro is valid without a body and parameters, and not with a number as its name.
func TestMacroWithoutBody(t *testing.T) {
	for _, line := range []string{"a", "a 1", "a # ## b", "f()", "f() 1", "f(x)", "f(x) x", "f(x,y) #x##y", "f(a,b,c,d) a b c d"} {
		m, ok := impl.MacroOf(tokensOf(t, line))
		if !ok {
			t.Fatalf("MacroOf of the tokens of %q is false", line)
		}
		wantMacroValid(t, m, true)
		bare := impl.Macro{Name: m.Name, Function: m.Function}
		wantMacroValid(t, bare, true)
		wantMacroValid(t, impl.Macro{Name: m.Name}, true)
		wantMacroValid(t, impl.Macro{Name: m.Name, Function: m.Function, Params: m.Params}, true)
		wantMacroValid(t, impl.Macro{Name: m.Name, Function: m.Function, Params: []string{}, Body: []impl.Token{}}, true)
		m.Name, bare.Name = "1", "1"
		wantMacroValid(t, m, false)
		wantMacroValid(t, bare, false)
	}
}

// Promise 53: there are no parameters without Function.
func TestMacroParamsWithoutFunction(t *testing.T) {
	for _, params := range [][]string{{"x"}, {""}, {"1"}, {"x", "y"}, {"x", "x"}, {"a", "b", "c", "d"}} {
		wantMacroValid(t, impl.Macro{Name: "a", Params: params}, false)
		wantMacroValid(t, impl.Macro{Name: "a", Params: params, Body: besides(t, "x")}, false)
	}
}

// Promise 53: parameters are at most MaxParams different names, in any order; they may be named as the macro.
func TestMacroParams(t *testing.T) {
	valid := [][]string{nil, {}, {"x"}, {"f"}, {"defined"}, {"_"}, {"abcdefghijkl"}, {"x", "y"}, {"y", "x"}, {"x", "X"}, {"a", "aa"}, {"a", "b", "c"}, {"d", "c", "b", "a"}}
	for _, params := range valid {
		m := functionMacro(t, "f", params, "1")
		wantMacro(t, tokensOf(t, macroLine(m)), m)
		checkMacroText(t, m)
	}
	twice := [][]string{{"x", "x"}, {"x", "y", "x"}, {"y", "x", "x"}, {"x", "x", "y"}, {"a", "b", "c", "a"}, {"a", "b", "c", "c"}, {"a", "b", "b", "c"}}
	many := [][]string{{"a", "b", "c", "d", "e"}, {"a", "b", "c", "d", "e", "f"}, {"x", "x", "x", "x", "x"}}
	noNames := [][]string{{"1"}, {"x", "1"}, {"1", "x"}, {"+"}, {`"x"`}, {"x", "#"}, {"##"}, {"("}}
	for _, params := range slices.Concat(twice, many, noNames) {
		m := functionMacro(t, "f", params, "")
		wantMacroValid(t, m, false)
		wantNoMacro(t, tokensOf(t, macroLine(m)))
		wantNoMacro(t, tokensOf(t, macroLine(m)+" a b"))
	}
	for _, params := range [][]string{{""}, {"x", ""}, {" x"}, {"x "}, {"x", "x "}, {"x,y"}, {"x y"}, {"abcdefghijklm"}, {"x\n"}, {","}, {")"}, make([]string, 1000)} {
		wantMacroValid(t, functionMacro(t, "f", params, ""), false)
	}
}

// Promise 54: commas are between parameters, each of which is one name, and a ) is behind them.
func TestMacroOfWrongParams(t *testing.T) {
	lines := []string{"f(", "f(x", "f(x,", "f(x,y", "f( x", "f(,", "f(,)", "f(,,)", "f(,,,)", "f(x,)", "f(x,) x", "f(x,y,)", "f(,x)", "f(,x) x", "f(x,,y)", "f(x y)", "f(x y) x", "f(x y z)", "f(x+y)", "f(x;y)", `f(x",")`, "f(x.y)", "f(x,y z)", "f(x(y))", "f((x))", "f((x)", "f(()", "f(())", "f(1)", "f(1) x", `f("x")`, "f(x)##", "f(x,1)", "f(#x)", "f(x##y)", "f(...)", "f(x x) x", `f(x ")" y`, "f(x]", "f(x}"}
	for _, line := range lines {
		wantNoMacro(t, tokensOf(t, line))
	}
}

// Promise 54: tokens without any, too many, or not valid define nothing.
func TestMacroOfInvalid(t *testing.T) {
	wantNoMacro(t, nil)
	wantNoMacro(t, []impl.Token{})
	a, one := beside(aName, "a"), apart(aNumber, "1")
	for _, wrong := range wrongTokens() {
		for _, list := range [][]impl.Token{{wrong}, {wrong, one}, {a, wrong}, {a, one, wrong}, {a, wrong, one}} {
			wantNoMacro(t, list)
		}
		list := tokensOf(t, "f(x,y) #x##y + 1")
		for i := range list {
			wrongList := slices.Clone(list)
			wrongList[i] = wrong
			wantNoMacro(t, wrongList)
			wantNoMacro(t, slices.Insert(slices.Clone(list), i, wrong))
		}
	}
	for _, count := range []int{impl.MaxTokens, impl.MaxTokens + 1, 1000} {
		wantNoMacro(t, manyTokens(a, count))
	}
}

// Promise 53: a body has exactly MaxBody tokens at most.
func TestMacroBodyMany(t *testing.T) {
	name, open, closing := beside(aName, "f"), beside(aMark, "("), beside(aMark, ")")
	for _, token := range []impl.Token{beside(aName, "a"), beside(aMark, "+"), beside(aText, `""`), beside(aNumber, "1"), closing} {
		for _, count := range []int{0, 1, impl.MaxBody - 1, impl.MaxBody} {
			body := manyTokens(token, count)
			wantMacro(t, append([]impl.Token{name}, body...), impl.Macro{Name: "f", Body: body})
			wantMacro(t, append([]impl.Token{name, open, closing}, body...), impl.Macro{Name: "f", Function: true, Body: body})
			checkMacroText(t, impl.Macro{Name: "f", Body: body})
			checkMacroText(t, impl.Macro{Name: "f", Function: true, Params: []string{"a", "b", "c", "d"}, Body: body})
		}
		for _, count := range []int{impl.MaxBody + 1, impl.MaxBody + 4, impl.MaxTokens - 3, impl.MaxTokens, 1000} {
			body := manyTokens(token, count)
			wantMacroValid(t, impl.Macro{Name: "f", Body: body}, false)
			wantMacroValid(t, impl.Macro{Name: "f", Function: true, Body: body}, false)
			wantNoMacro(t, append([]impl.Token{name}, body...))
			wantNoMacro(t, append([]impl.Token{name, open, closing}, body...))
		}
	}
}

// Promise 53: the tokens of a body are valid.
func TestMacroBodyInvalid(t *testing.T) {
	for _, wrong := range wrongTokens() {
		for _, body := range [][]impl.Token{{wrong}, {wrong, beside(aName, "a")}, {beside(aName, "a"), wrong}, {beside(aName, "a"), wrong, beside(aName, "a")}} {
			wantMacroValid(t, impl.Macro{Name: "a", Body: body}, false)
			wantMacroValid(t, impl.Macro{Name: "a", Function: true, Params: []string{"a"}, Body: body}, false)
		}
	}
}

// Promise 53: the first token of a body is not Spaced, and all others may be.
func TestMacroBodySpaced(t *testing.T) {
	for _, first := range []impl.Token{beside(aName, "a"), beside(aMark, "("), beside(aText, `" "`), beside(aNumber, "1")} {
		for _, body := range [][]impl.Token{{first}, {first, beside(aName, "b")}, {first, apart(aName, "b")}, {first, apart(aName, "b"), apart(aMark, "(")}} {
			plain := impl.Macro{Name: "a", Body: body}
			function := impl.Macro{Name: "a", Function: true, Params: []string{"a"}, Body: body}
			checkMacroText(t, plain)
			checkMacroText(t, function)
			body[0].Spaced = true
			wantMacroValid(t, plain, false)
			wantMacroValid(t, function, false)
			body[0].Spaced = false
		}
	}
}

// Promise 53: no token of a body has Hidden names, though these are valid.
func TestMacroBodyHidden(t *testing.T) {
	for _, function := range []bool{false, true} {
		for i := range 3 {
			body := tokensOf(t, "b + 1")
			wantMacroValid(t, impl.Macro{Name: "a", Function: function, Body: body}, true)
			body[i].Hidden = []string{}
			wantMacroValid(t, impl.Macro{Name: "a", Function: function, Body: body}, true)
			for _, names := range [][]string{{"a"}, {"b"}, {"a", "b"}, manyNames(impl.MaxTokens), {"1"}} {
				body[i].Hidden = names
				wantMacroValid(t, impl.Macro{Name: "a", Function: function, Body: body}, false)
			}
		}
	}
}

// Promise 53: ## is within a body, and not twice, whether the macro has Function or not.
func TestMacroBodyPastes(t *testing.T) {
	for _, body := range []string{"a ## b", "a##b", "a ## b ## c", "a # b", "a ## b c ## 1", `"##"`, `"##" ## "##"`, "( ## )", "+ ## ="} {
		checkMacroText(t, plainMacro(t, "m", body))
	}
	for _, body := range []string{"a ## b", "x##y", "x ## y ## x", "a ## b c ## 1", `"##"`, `"##" ## "##"`, "( ## )", "x ## #x", "#x ## #y", "#x##y"} {
		checkMacroText(t, functionMacro(t, "f", []string{"x", "y"}, body))
	}
	for _, body := range []string{"##", "## a", "a ##", "##a", "a##", "## ##", "a ## ## b", "a####b", "a ## b ##", "## a ## b", "a ## ##", "## ## a", "a ## b ## ## c", "x ## y ##", `## "##"`, "## #x", "#x ##", "a b ##", "a x ## ## y"} {
		wantMacroValid(t, plainMacro(t, "m", body), false)
		wantMacroValid(t, functionMacro(t, "f", []string{"x", "y"}, body), false)
		wantNoMacro(t, tokensOf(t, "m "+body))
		wantNoMacro(t, tokensOf(t, "m"+body))
		wantNoMacro(t, tokensOf(t, "f() "+body))
		wantNoMacro(t, tokensOf(t, "f(x,y) "+body))
	}
}

// Promise 53: with Function every # is directly before a parameter, and without it a # may be anywhere.
func TestMacroBodyNumberSigns(t *testing.T) {
	params := []string{"x", "y"}
	for _, body := range []string{"#x", "# x", "#y", "#x #y", "#x#y", "# x # y + x", "a #x b", "x #x", "#x x", `"#" x`, `"#"`, "#x + #x + #x"} {
		checkMacroText(t, functionMacro(t, "f", params, body))
		checkMacroText(t, plainMacro(t, "a", body))
		wantMacroValid(t, functionMacro(t, "f", nil, body), strings.HasPrefix(body, `"`))
	}
	for _, body := range []string{"#", "# #", "#z", "# f", "#1", "#+", "#(x)", `#"x"`, "x #", "#x #", "##x #x", "# # x", "#x #z", "#z #x", "#y #1", "# ## x", "x ## #", "#X", "#xx", "a # b", "#x+#", `#"y"`} {
		wantMacroValid(t, functionMacro(t, "f", params, body), false)
		wantNoMacro(t, tokensOf(t, "f(x,y) "+body))
		wantNoMacro(t, tokensOf(t, "f(x,y)"+body))
		if !strings.Contains(body, "##") {
			wantMacro(t, tokensOf(t, "a "+body), plainMacro(t, "a", body))
			checkMacroText(t, plainMacro(t, "a", body))
		}
	}
	for _, param := range []string{"f", "defined"} {
		checkMacroText(t, functionMacro(t, "f", []string{param}, "#"+param))
	}
}

// Promise 4: the text of macros is what defines them, with no spaces in the parameters and one before the body.
func TestMacroTextOfLines(t *testing.T) {
	cases := [][2]string{
		{"a", "a"}, {" a ", "a"}, {"a 1", "a 1"}, {"a   b   c", "a b c"}, {"a+b", "a +b"}, {"a (x)", "a (x)"}, {"a (", "a ("}, {`a"b"`, `a "b"`},
		{"f()", "f()"}, {"f( )", "f()"}, {"f()1", "f() 1"}, {"f( x )", "f(x)"}, {"f(x)x", "f(x) x"}, {"f(x , y) x + y", "f(x,y) x + y"}, {"f(d,c,b,a)", "f(d,c,b,a)"},
		{"f()(x)", "f() (x)"}, {"f() ()", "f() ()"}, {"f(x) # x", "f(x) # x"}, {"f(x)#x", "f(x) #x"}, {"f(x)x##1", "f(x) x##1"}, {"f(x) /x", "f(x) /x"},
		{"f(x) x / / x", "f(x) x / / x"}, {"f(x) x//x", "f(x) x/ /x"}, {"a/*", "a / *"}, {"a #", "a #"}, {"a#b", "a #b"},
	}
	for _, c := range cases {
		m, ok := impl.MacroOf(tokensOf(t, c[0]))
		if text, fine := impl.MacroText(m); !ok || !fine || text != c[1] {
			t.Errorf("the macro of %q has the text %q, %v, %v, want %q", c[0], text, ok, fine, c[1])
		}
		checkMacroText(t, m)
	}
}

// Promise 4: for bodies of all two tokens, Spaced or not.
func TestMacroTextOfPairs(t *testing.T) {
	for _, a := range allSorts() {
		for _, b := range allSorts() {
			for _, spaced := range []bool{false, true} {
				b.Spaced = spaced
				body := []impl.Token{a, b}
				plain := impl.Macro{Name: "m", Body: body}
				function := impl.Macro{Name: "m", Function: true, Params: []string{"x", "a"}, Body: body}
				if a.Text == "##" || b.Text == "##" {
					wantMacroValid(t, plain, false)
					wantMacroValid(t, function, false)
					continue
				}
				checkMacroText(t, plain)
				if b.Text == "#" || a.Text == "#" && b.Text != "a" {
					wantMacroValid(t, function, false)
					continue
				}
				checkMacroText(t, function)
			}
		}
	}
}

// Promise 4: for long bodies in many orders, with any number of parameters.
func TestMacroTextOfMixedBodies(t *testing.T) {
	sorts := slices.DeleteFunc(allSorts(), func(token impl.Token) bool { return strings.HasPrefix(token.Text, "#") })
	params := []string{"b", "a", "x", "defined"}
	for start := range sorts {
		for stride := range sorts {
			var body []impl.Token
			for i := range impl.MaxBody {
				token := sorts[(start+i*stride)%len(sorts)]
				token.Spaced = i > 0 && (start+i*i)%5 == 0
				body = append(body, token)
			}
			for count := range len(params) + 1 {
				part := body[:len(body)-count*(start%5)]
				checkMacroText(t, impl.Macro{Name: "m", Function: true, Params: params[:count], Body: part})
			}
			checkMacroText(t, impl.Macro{Name: "m", Body: body})
		}
	}
}

// Promise 4: a text of exactly MaxLine bytes is one, and a longer one is none, whichever part is longer.
func TestMacroTextLength(t *testing.T) {
	word := beside(aName, "abcdefghi")
	fit := []impl.Macro{
		{Name: "f", Body: []impl.Token{textOf(198)}},
		{Name: "abcdefghijk", Body: []impl.Token{textOf(188)}},
		{Name: "f", Function: true, Body: []impl.Token{textOf(196)}},
		{Name: "f", Function: true, Params: []string{"x", "y"}, Body: []impl.Token{textOf(193)}},
		{Name: "f", Body: []impl.Token{textOf(100), textOf(98)}},
		{Name: "f", Body: []impl.Token{textOf(100), apart(aText, textOf(97).Text)}},
		{Name: "f", Body: []impl.Token{beside(aMark, "/"), beside(aMark, "*"), textOf(195)}},
		// 20 words of 9 bytes have 199 bytes with the spaces between them.
		{Name: "f", Body: append(manyTokens(word, 19), beside(aName, "abcdefgh"))},
	}
	for _, m := range fit {
		checkMacroText(t, m)
		if text, ok := impl.MacroText(m); !ok || len(text) != impl.MaxLine {
			t.Errorf("MacroText(%v) has %d bytes, %v", m, len(text), ok)
		}
		longer := m
		longer.Name += "f"
		wantMacroValid(t, longer, true)
		wantNoMacroText(t, longer)
		longer = m
		longer.Body = slices.Clone(m.Body)
		last := &longer.Body[len(longer.Body)-1]
		if last.Kind == aText {
			last.Text = textOf(len(last.Text) + 1).Text
		} else {
			last.Text += "x"
		}
		wantMacroValid(t, longer, true)
		wantNoMacroText(t, longer)
	}
	tooLong := []impl.Macro{
		{Name: "f", Body: []impl.Token{textOf(199)}},
		{Name: "f", Body: []impl.Token{textOf(200)}},
		{Name: "f", Function: true, Body: []impl.Token{textOf(197)}},
		{Name: "f", Body: []impl.Token{textOf(101), textOf(100)}},
		{Name: "f", Body: manyTokens(textOf(200), impl.MaxBody)},
		{Name: "f", Body: manyTokens(word, impl.MaxBody)},
		{Name: "abcdefghijkl", Function: true, Params: []string{"aaaaaaaaaaaa", "bbbbbbbbbbbb", "cccccccccccc", "dddddddddddd"}, Body: []impl.Token{textOf(135)}},
	}
	for _, m := range tooLong {
		wantMacroValid(t, m, true)
		wantNoMacroText(t, m)
	}
	longest := tooLong[len(tooLong)-1]
	longest.Body = []impl.Token{textOf(134)}
	checkMacroText(t, longest)
}

var (
	functionLine = regexp.MustCompile(`^ *([a-z]+)\( *(?:([a-z]+(?: *, *[a-z]+)*) *)?\)(.*)$`)
	plainLine    = regexp.MustCompile(`^ *([a-z]+)(?:[^a-z(]|$)`)
	lineToken    = regexp.MustCompile(`[a-z]+|##|.`)
)

// definesMacro is another way to tell whether a line of small letters, parentheses, commas, # and spaces defines a macro: its tokens are written in < and >, and counted.
func definesMacro(line string) bool {
	var params []string
	found := functionLine.FindStringSubmatch(line)
	rest := ""
	if found != nil {
		rest = found[3]
		if found[2] != "" {
			params = strings.Split(strings.ReplaceAll(found[2], " ", ""), ",")
		}
	} else if plain := plainLine.FindStringSubmatch(line); plain != nil {
		rest = strings.TrimPrefix(strings.TrimLeft(line, " "), plain[1])
	} else {
		return false
	}
	marked, signs := "", 0
	for _, s := range lineToken.FindAllString(rest, -1) {
		if s != " " {
			marked += "<" + s + ">"
		}
	}
	for i, name := range params {
		if i >= impl.MaxParams || slices.Index(params, name) != i {
			return false
		}
		signs += strings.Count(marked, "<#><"+name+">")
	}
	if strings.HasPrefix(marked, "<##>") || strings.HasSuffix(marked, "<##>") || strings.Contains(marked, "<##><##>") {
		return false
	}
	return found == nil || signs == strings.Count(marked, "<#>")
}

// Promises 4, 53 and 54: for all short lines.
func TestMacroOfShortLines(t *testing.T) {
	var lines []string
	for _, line := range linesOf("x,)# ", 6) {
		lines = append(lines, "f("+line, "f(y)"+line, "f(x,y)"+line)
	}
	for _, line := range linesOf("x(,)# ", 5) {
		lines = append(lines, line, "f"+line)
	}
	defined := 0
	for _, line := range lines {
		list := tokensOf(t, line)
		m, ok := impl.MacroOf(list)
		if ok != definesMacro(line) || ok != impl.MacroValid(m) {
			t.Fatalf("MacroOf of the tokens of %q = %v, %v", line, m, ok)
		}
		if !ok {
			wantNoMacro(t, list)
			continue
		}
		defined++
		wantBody := slices.Clone(list[len(list)-len(m.Body):])
		if len(wantBody) > 0 {
			wantBody[0].Spaced = false
		}
		if m.Name != list[0].Text || !sameTokens(m.Body, wantBody) {
			t.Fatalf("MacroOf of the tokens of %q = %v", line, m)
		}
		checkMacroText(t, m)
	}
	if defined < 1000 || len(lines)-defined < 1000 {
		t.Errorf("%d of %d lines define a macro", defined, len(lines))
	}
}

// The general rules: arguments are not written to, and a macro shares no memory with the tokens, nor its parts with each other.
func TestMacroKeepsArguments(t *testing.T) {
	list := tokensOf(t, "f(x,y) #x + y")
	list[8].Hidden = []string{"a"}
	want := tokensOf(t, "f(x,y) #x + y")
	want[8].Hidden = []string{"a"}
	macro := functionMacro(t, "f", []string{"x", "y"}, "#x + y")
	for range 2 {
		m, ok := impl.MacroOf(list[:10])
		if !ok || !sameMacros(m, macro) || !reflect.DeepEqual(list, want) {
			t.Fatalf("MacroOf = %v, %v, of the tokens %v", m, ok, list)
		}
		if text, ok := impl.MacroText(m); !ok || text != "f(x,y) #x + y" || !impl.MacroValid(m) || !sameMacros(m, macro) {
			t.Fatalf("MacroText = %q, %v, of %v", text, ok, m)
		}
		changeMacro(m)
		if !reflect.DeepEqual(list, want) {
			t.Fatalf("the tokens are now %v", list)
		}
		other, _ := impl.MacroOf(list[:10])
		if !sameMacros(other, macro) {
			t.Fatalf("MacroOf = %v after the macro before was written to", other)
		}
		changeTokens(list)
		if !sameMacros(other, macro) {
			t.Fatalf("the macro is %v after the tokens were written to", other)
		}
		copy(list, want)
	}
}

// changeMacro writes to all memory of a macro, also to that behind its end.
func changeMacro(m impl.Macro) {
	params := m.Params[:cap(m.Params)]
	for i := range params {
		params[i] = "changed"
	}
	changeTokens(m.Body[:cap(m.Body)])
}

// changeTokens writes to all tokens.
func changeTokens(list []impl.Token) {
	for i := range list {
		list[i] = apart(aText, `"changed"`)
	}
}
