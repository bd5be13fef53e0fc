package tests

import (
	"reflect"
	"slices"
	"strings"
	"testing"

	"loop.example/macroprocessor/impl"
)

// wantPrinted checks PrintTokens of tokens that can be printed, and that the line can be read.
func wantPrinted(t *testing.T, want string, list ...impl.Token) {
	t.Helper()
	if got, ok := impl.PrintTokens(list); !ok || got != want {
		t.Errorf("PrintTokens(%v) = %q, %v, want %q, true", list, got, ok, want)
	}
	if again, ok := impl.TokensOf(want); !ok || !sameKindsAndTexts(again, list) {
		t.Errorf("TokensOf(%q) = %v, %v, want the kinds and texts of %v", want, again, ok, list)
	}
}

// wantUnprinted checks PrintTokens of tokens that cannot be printed.
func wantUnprinted(t *testing.T, list ...impl.Token) {
	t.Helper()
	if got, ok := impl.PrintTokens(list); ok || got != "" {
		t.Errorf("PrintTokens(%v) = %q, %v, want nothing and false", list, got, ok)
	}
}

// wantTokensValid checks TokensValid.
func wantTokensValid(t *testing.T, list []impl.Token, want bool) {
	t.Helper()
	if impl.TokensValid(list) != want {
		t.Errorf("TokensValid(%v) = %v, want %v", list, !want, want)
	}
}

// wantSame checks SameTexts in both directions.
func wantSame(t *testing.T, a []impl.Token, b []impl.Token, want bool) {
	t.Helper()
	if impl.SameTexts(a, b) != want || impl.SameTexts(b, a) != want {
		t.Errorf("SameTexts of %v and %v is not %v in both directions", a, b, want)
	}
}

// sameKindsAndTexts is another way to compare tokens: all but their kinds and texts is taken away.
func sameKindsAndTexts(a []impl.Token, b []impl.Token) bool {
	return sameTokens(plainTokens(a), plainTokens(b))
}

// plainTokens returns tokens that have only the kinds and texts of the given ones.
func plainTokens(list []impl.Token) []impl.Token {
	var plain []impl.Token
	for _, token := range list {
		plain = append(plain, beside(token.Kind, token.Text))
	}
	return plain
}

// besides returns the tokens of a line without Spaced.
func besides(t *testing.T, line string) []impl.Token {
	t.Helper()
	list, ok := impl.TokensOf(line)
	if !ok {
		t.Fatalf("TokensOf(%q) is false", line)
	}
	return plainTokens(list)
}

// allSorts returns tokens of all kinds, with all marks among them.
func allSorts() []impl.Token {
	list := []impl.Token{beside(aName, "a"), beside(aName, "_"), beside(aName, "Zz9_"), beside(aName, "abcdefghijkl"), beside(aName, "defined")}
	list = append(list, beside(aNumber, "0"), beside(aNumber, "12x"), beside(aNumber, "123456789012"))
	list = append(list, beside(aText, `""`), beside(aText, `"a"`), beside(aText, `" "`), beside(aText, `"\""`), beside(aText, `"\\"`), beside(aText, `"//"`), beside(aText, `"/*"`))
	for _, s := range append(slices.Clone(singleMarks), doubleMarks...) {
		list = append(list, beside(aMark, s))
	}
	return list
}

// mustBeApart is another way to tell whether a space is needed: words make one word, and bytes of marks make a mark or a comment.
func mustBeApart(a impl.Token, b impl.Token) bool {
	isWord := func(token impl.Token) bool { return token.Kind == aName || token.Kind == aNumber }
	if isWord(a) && isWord(b) {
		return true
	}
	meeting := a.Text + b.Text[:1]
	return a.Kind == aMark && b.Kind == aMark && (meeting == "//" || meeting == "/*" || slices.Contains(doubleMarks, meeting))
}

// printedLine is another way to print tokens that are not too long.
func printedLine(list []impl.Token) string {
	line := ""
	for i, token := range list {
		if i > 0 && (token.Spaced || mustBeApart(list[i-1], token)) {
			line += " "
		}
		line += token.Text
	}
	return line
}

// checkPrinted checks what promise 3 says of tokens that are not too long, and that no comment is in the line.
func checkPrinted(t *testing.T, list []impl.Token) {
	t.Helper()
	want := printedLine(list)
	line, ok := impl.PrintTokens(list)
	if !ok || line != want {
		t.Fatalf("PrintTokens(%v) = %q, %v, want %q, true", list, line, ok, want)
	}
	if again, ok := impl.TokensOf(line); !ok || !sameKindsAndTexts(again, list) || !impl.SameTexts(again, list) {
		t.Fatalf("PrintTokens(%v) = %q is read as %v, %v", list, line, again, ok)
	}
	if stripped, ok := impl.StripComments(line); !ok || stripped != line {
		t.Fatalf("PrintTokens(%v) = %q has a comment", list, line)
	}
}

// Promise 3: ordinary tokens, one behind the other.
func TestPrintTokensOfLines(t *testing.T) {
	wantPrinted(t, "")
	lines := []string{"a", "1", `"a"`, "+", "f(1)", "f(x)+x", "a+b*c", "(a)", "a==b", "!a", "-1", `s="a b"+t`, "#a", "a##b", `f("a","b")`, `""""`, `"a""b"`, `a"b"c`, `1"b"1`, "a.b", "1.5", "x[1]", "{}", "a?b:c", "*/", "+-", "(((", `"//"/"/*"`}
	for _, line := range lines {
		wantPrinted(t, line, besides(t, line)...)
	}
	wantPrinted(t, "#define f(x)x+x", besides(t, "#define f ( x ) x + x")...)
	wantPrinted(t, `#include"a.h"`, besides(t, `# include "a.h"`)...)
	wantPrinted(t, "a b c", besides(t, "a b c")...)
}

// Promise 3: a space is before each one that is Spaced, and only one, however many are in the line.
func TestPrintTokensSpaced(t *testing.T) {
	wantPrinted(t, "a +b", beside(aName, "a"), apart(aMark, "+"), beside(aName, "b"))
	wantPrinted(t, "a+ b", beside(aName, "a"), beside(aMark, "+"), apart(aName, "b"))
	wantPrinted(t, "a + b", beside(aName, "a"), apart(aMark, "+"), apart(aName, "b"))
	wantPrinted(t, "f (1)", beside(aName, "f"), apart(aMark, "("), beside(aNumber, "1"), beside(aMark, ")"))
	wantPrinted(t, `"a" "b"`, beside(aText, `"a"`), apart(aText, `"b"`))
	wantPrinted(t, "a b", beside(aName, "a"), apart(aName, "b"))
	wantPrinted(t, "= =", beside(aMark, "="), apart(aMark, "="))
	wantPrinted(t, "/ /", beside(aMark, "/"), apart(aMark, "/"))
	wantPrinted(t, "/ *", beside(aMark, "/"), apart(aMark, "*"))
	wantPrinted(t, "#define f(x) x + x", beside(aMark, "#"), beside(aName, "define"), apart(aName, "f"), beside(aMark, "("), beside(aName, "x"), beside(aMark, ")"), apart(aName, "x"), apart(aMark, "+"), apart(aName, "x"))
}

// Promise 3: no space is before the first one, though it is Spaced.
func TestPrintTokensFirstSpaced(t *testing.T) {
	for _, token := range allSorts() {
		spaced := apart(token.Kind, token.Text)
		wantPrinted(t, token.Text, token)
		wantPrinted(t, token.Text, spaced)
		wantPrinted(t, token.Text+" "+token.Text, spaced, spaced)
		wantPrinted(t, token.Text+" (", spaced, apart(aMark, "("))
	}
	wantPrinted(t, "a+1", apart(aName, "a"), beside(aMark, "+"), beside(aNumber, "1"))
	wantPrinted(t, "a+ a", apart(aName, "a"), beside(aMark, "+"), apart(aName, "a"))
	wantPrinted(t, "a b", apart(aName, "a"), beside(aName, "b"))
}

// Promise 3: two words are apart, also where they would be too long for one.
func TestPrintTokensOfWords(t *testing.T) {
	for _, a := range []impl.Token{beside(aName, "a"), beside(aNumber, "1"), beside(aName, "_"), beside(aNumber, "0x"), beside(aName, "abcdefghijkl"), beside(aNumber, "123456789012")} {
		for _, b := range []impl.Token{beside(aName, "b"), beside(aNumber, "2"), beside(aName, "_2"), beside(aName, "mnopqrstuvwx"), beside(aNumber, "012345678901")} {
			wantPrinted(t, a.Text+" "+b.Text, a, b)
			wantPrinted(t, a.Text+" "+b.Text+" "+a.Text, a, b, a)
			wantPrinted(t, "("+a.Text+" "+b.Text+")", beside(aMark, "("), a, b, beside(aMark, ")"))
		}
		wantPrinted(t, a.Text+`"b"`+a.Text, a, beside(aText, `"b"`), a)
		wantPrinted(t, a.Text+"."+a.Text, a, beside(aMark, "."), a)
	}
}

// Promise 3: marks that would be read otherwise are apart, and all others are not.
func TestPrintTokensOfMarks(t *testing.T) {
	cases := [][2]string{
		{"= =", "= ="}, {"! =", "! ="}, {"< =", "< ="}, {"> =", "> ="}, {"& &", "& &"}, {"| |", "| |"}, {"# #", "# #"},
		{"= ==", "= =="}, {"! ==", "! =="}, {"< ==", "< =="}, {"& &&", "& &&"}, {"| ||", "| ||"}, {"# ##", "# ##"},
		{"== =", "==="}, {"!= =", "!=="}, {"<= =", "<=="}, {"&& &", "&&&"}, {"|| |", "|||"}, {"## #", "###"},
		{"== ==", "===="}, {"## ##", "####"}, {"&& &&", "&&&&"}, {"!= ==", "!==="},
		{"= = =", "= = ="}, {"== = =", "=== ="}, {"= == =", "= ==="}, {"# # ##", "# # ##"}, {"& & & &", "& & & &"},
		{"= !", "=!"}, {"= <", "=<"}, {"= !=", "=!="}, {"< >", "<>"}, {"& |", "&|"}, {"+ =", "+="}, {"+ +", "++"}, {"- >", "->"}, {"< <", "<<"}, {"! !", "!!"}, {": :", "::"},
		{"/ =", "/="}, {"* *", "**"}, {"* /", "*/"}, {"/ + /", "/+/"},
	}
	for _, c := range cases {
		wantPrinted(t, c[1], besides(t, c[0])...)
		wantPrinted(t, "a"+c[1]+"1", besides(t, "a "+c[0]+" 1")...)
	}
}

// Promise 3: // and /* are not where two tokens meet, but may be in a text.
func TestPrintTokensOfComments(t *testing.T) {
	cases := [][2]string{
		{"/ /", "/ /"},
		{"/ *", "/ *"},
		{"/ / /", "/ / /"},
		{"/ * /", "/ */"},
		{"/ * * /", "/ **/"},
		{"* / *", "*/ *"},
		{"* / /", "*/ /"},
		{"a / / b", "a/ /b"},
		{"a / * b * / c", "a/ *b*/c"},
		{`/ "/"`, `/"/"`},
		{`"/" /`, `"/"/`},
		{`"/" "/"`, `"/""/"`},
		{`"/" *`, `"/"*`},
		{`/ "*"`, `/"*"`},
		{`"//" / "/*"`, `"//"/"/*"`},
	}
	for _, c := range cases {
		wantPrinted(t, c[1], besides(t, c[0])...)
		checkPrinted(t, besides(t, c[0]))
	}
}

// Promise 3: for all two tokens, Spaced or not, with Hidden names or without them.
func TestPrintTokensOfPairs(t *testing.T) {
	for _, a := range allSorts() {
		for _, b := range allSorts() {
			for spaces := range 4 {
				a.Spaced, b.Spaced = spaces%2 == 1, spaces >= 2
				checkPrinted(t, []impl.Token{a, b})
				hidden := []impl.Token{a, b}
				hidden[0].Hidden, hidden[1].Hidden = []string{"a"}, []string{"a", "b"}
				checkPrinted(t, hidden)
			}
		}
	}
}

// Promise 3: for all three tokens.
func TestPrintTokensOfTriples(t *testing.T) {
	for _, a := range allSorts() {
		for _, b := range allSorts() {
			for _, c := range allSorts() {
				checkPrinted(t, []impl.Token{a, b, c})
			}
		}
	}
}

// Promise 3: for long lists in many orders, up to MaxLine.
func TestPrintTokensOfMixedLists(t *testing.T) {
	sorts := allSorts()
	for start := range sorts {
		for stride := range sorts {
			var list []impl.Token
			for i := range impl.MaxTokens {
				token := sorts[(start+i*stride)%len(sorts)]
				token.Spaced = (start+i*i)%5 == 0
				list = append(list, token)
				if len(printedLine(list)) > impl.MaxLine {
					wantUnprinted(t, list...)
					break
				}
				checkPrinted(t, list)
			}
		}
	}
}

// Promise 2: for all short lines, also with spaces.
func TestPrintTokensOfShortLines(t *testing.T) {
	lines := slices.Concat(linesOf(`a1 "\=#`, 6), linesOf("=!<>&|#+_0", 4), linesOf(`/* ="a`, 6))
	for _, line := range lines {
		list, ok := impl.TokensOf(line)
		if !ok {
			continue
		}
		printed, printedOK := impl.PrintTokens(list)
		again, againOK := impl.TokensOf(printed)
		if !impl.TokensValid(list) || !printedOK || !againOK || !sameKindsAndTexts(again, list) {
			t.Fatalf("TokensOf(%q) = %v, printed %q, %v, and divided again %v, %v", line, list, printed, printedOK, again, againOK)
		}
		checkSpaces(t, line, list, again)
		if twice, ok := impl.PrintTokens(again); !ok || twice != printed {
			t.Fatalf("PrintTokens of the tokens of %q = %q, %v", printed, twice, ok)
		}
	}
}

// checkSpaces checks that printing keeps what is Spaced, but for the first one and for comments.
func checkSpaces(t *testing.T, line string, list []impl.Token, again []impl.Token) {
	t.Helper()
	if stripped, ok := impl.StripComments(line); !ok || stripped != line {
		return
	}
	for i := range list {
		if again[i].Spaced != (i > 0 && list[i].Spaced) {
			t.Fatalf("of the tokens of %q the one at %d is printed with another space: %v", line, i, again)
		}
	}
}

// Promise 2: ordinary lines come out as they are, but for spaces that are too many.
func TestPrintTokensOfTokens(t *testing.T) {
	lines := []string{"", "#define f(x) x + x", "f(1)", "1 + 1", `#include "a.h"`, `s = "a  b";`, "#if defined(a) && !b", "a ## b", "x ? y : z", "{ [ ( ) ] }", "a.b , c", "*/ a"}
	for _, line := range lines {
		for _, spaced := range []string{line, " " + line, line + "  ", strings.ReplaceAll(line, " + ", "   +  ")} {
			list, ok := impl.TokensOf(spaced)
			if !ok || !impl.TokensValid(list) {
				t.Errorf("TokensOf(%q) = %v, %v", spaced, list, ok)
			}
			wantPrinted(t, line, list...)
		}
	}
}

// manyTokens returns a token a number of times.
func manyTokens(token impl.Token, count int) []impl.Token {
	return slices.Repeat([]impl.Token{token}, count)
}

// textOf returns a TokenText of a number of bytes.
func textOf(length int) impl.Token {
	return beside(aText, `"`+strings.Repeat("x", length-2)+`"`)
}

// Promise 3: a line of exactly MaxLine bytes is printed, and a longer one is not, whatever the last byte is.
func TestPrintTokensLength(t *testing.T) {
	a, one, slash, star := beside(aName, "a"), beside(aNumber, "1"), beside(aMark, "/"), beside(aMark, "*")
	paren, spacedParen, equals := beside(aMark, "("), apart(aMark, "("), beside(aMark, "=")
	fit := [][]impl.Token{
		{textOf(200)},
		{apart(aText, textOf(200).Text)},
		{textOf(199), paren},
		{textOf(198), spacedParen},
		{apart(aText, textOf(199).Text), a},
		{textOf(197), a, one},
		{textOf(197), equals, equals},
		{textOf(197), slash, slash},
		{slash, star, textOf(197)},
		{textOf(100), textOf(100)},
		{textOf(100), apart(aText, textOf(99).Text)},
	}
	for _, list := range fit {
		checkPrinted(t, list)
		if line, ok := impl.PrintTokens(list); !ok || len(line) != impl.MaxLine {
			t.Errorf("PrintTokens(%v) has %d bytes, %v", list, len(line), ok)
		}
		wantUnprinted(t, append(slices.Clone(list), paren)...)
		wantUnprinted(t, append([]impl.Token{paren}, list...)...)
		wantUnprinted(t, append(slices.Clone(list), list...)...)
	}
	tooLong := [][]impl.Token{
		{textOf(199), spacedParen},
		{textOf(198), a, one},
		{textOf(198), equals, equals},
		{textOf(198), slash, slash},
		{textOf(198), slash, star},
		{slash, slash, textOf(198)},
		{textOf(200), textOf(200)},
		{textOf(101), textOf(100)},
		{textOf(100), apart(aText, textOf(100).Text)},
		manyTokens(textOf(200), impl.MaxTokens),
	}
	for _, list := range tooLong {
		wantTokensValid(t, list, true)
		wantUnprinted(t, list...)
	}
}

// Promise 3: words that fit without the spaces between them are too long with these.
func TestPrintTokensLongWords(t *testing.T) {
	word := beside(aName, "abcdefghijkl")
	checkPrinted(t, manyTokens(word, 15))
	// 15 words and the spaces between them have 194 bytes.
	checkPrinted(t, append(manyTokens(word, 15), beside(aName, "abcde")))
	wantUnprinted(t, append(manyTokens(word, 15), beside(aName, "abcdef"))...)
	wantUnprinted(t, manyTokens(word, 16)...)
}

// Promises 3 and 51: exactly MaxTokens tokens at most are printed.
func TestPrintTokensMany(t *testing.T) {
	for _, token := range []impl.Token{beside(aMark, "("), apart(aMark, "("), beside(aName, "a"), beside(aNumber, "1"), beside(aText, `""`), beside(aMark, "/"), beside(aMark, "##"), hiding("a", "b")} {
		for _, count := range []int{0, 1, impl.MaxTokens - 1, impl.MaxTokens} {
			wantTokensValid(t, manyTokens(token, count), true)
			checkPrinted(t, manyTokens(token, count))
		}
		for _, count := range []int{impl.MaxTokens + 1, 2 * impl.MaxTokens} {
			wantTokensValid(t, manyTokens(token, count), false)
			wantUnprinted(t, manyTokens(token, count)...)
		}
	}
}

// wrongTokens returns tokens that are not valid, each for one reason.
func wrongTokens() []impl.Token {
	list := []impl.Token{{}, {Kind: aName}, {Text: "a"}, beside(aNumber, "a"), beside(aName, "1"), beside(aMark, `"a"`), beside(aText, "+"), beside(5, "a"), beside(-1, "a")}
	for _, s := range []string{" ", " a", "a ", "a b", "a\n", "abcdefghijklm", "@", "\u00e9"} {
		list = append(list, beside(aName, s))
	}
	list = append(list, beside(aText, `"a`), beside(aText, `"a"b"`), beside(aText, "\"\n\""), beside(aMark, "//"), beside(aMark, "==="), beside(aMark, " ="))
	list = append(list, beside(aText, `"`+strings.Repeat("x", 199)+`"`))
	return append(list, hiding("b", "a"), hiding("a", "a"), hiding("1"), hiding(""), hiding(manyNames(impl.MaxTokens+1)...))
}

// Promises 3 and 51: with a token that is not valid, anywhere, tokens are not valid, and not printed.
func TestPrintTokensInvalid(t *testing.T) {
	a, plus, b := beside(aName, "a"), beside(aMark, "+"), apart(aName, "b")
	for _, wrong := range wrongTokens() {
		for _, list := range [][]impl.Token{{wrong}, {wrong, wrong}, {wrong, plus, b}, {a, wrong, b}, {a, plus, wrong}, {a, plus, b, wrong}} {
			wantTokensValid(t, list, false)
			wantUnprinted(t, list...)
		}
		for i := range impl.MaxTokens {
			list := manyTokens(plus, impl.MaxTokens)
			list[i] = wrong
			wantTokensValid(t, list, false)
			wantUnprinted(t, list...)
			wantTokensValid(t, list[:i], true)
			wantTokensValid(t, list[i+1:], true)
		}
	}
}

// Promise 51: every part of valid tokens is valid, and every list of valid tokens that are not too many.
func TestTokensValidParts(t *testing.T) {
	wantTokensValid(t, nil, true)
	wantTokensValid(t, []impl.Token{}, true)
	list := allSorts()
	for i := range list {
		list[i].Spaced = i%2 == 0
		list[i].Hidden = manyNames(i)
	}
	for from := range len(list) + 1 {
		for to := from; to <= len(list); to++ {
			wantTokensValid(t, list[from:to], true)
		}
	}
	most := append(slices.Clone(list), manyTokens(hiding(manyNames(impl.MaxTokens)...), impl.MaxTokens-len(list))...)
	wantTokensValid(t, most, true)
	wantTokensValid(t, append(most, list[0]), false)
	// Valid tokens may be too long to be printed.
	wantTokensValid(t, manyTokens(textOf(200), impl.MaxTokens), true)
}

// Promise 52: a list is the same as itself, and not as one with a token more, wherever that is.
func TestSameTextsMore(t *testing.T) {
	wantSame(t, nil, nil, true)
	wantSame(t, nil, []impl.Token{}, true)
	list := allSorts()
	for count := range len(list) + 1 {
		part := list[:count]
		wantSame(t, part, part, true)
		wantSame(t, part, slices.Clone(part), true)
		for _, token := range []impl.Token{beside(aName, "a"), apart(aMark, "("), {}, list[len(list)-1]} {
			for i := range count + 1 {
				wantSame(t, part, slices.Insert(slices.Clone(part), i, token), false)
			}
		}
		if count < len(list) {
			wantSame(t, part, list[:count+1], false)
			wantSame(t, list[:count+1], list[len(list)-count-1:], count == len(list)-1)
		}
	}
}

// Promise 52: lists that differ in Spaced or Hidden only are the same.
func TestSameTextsSpacedAndHidden(t *testing.T) {
	list := allSorts()
	other := slices.Clone(list)
	for i := range other {
		other[i].Spaced = true
		wantSame(t, list, other, true)
		other[i].Hidden = manyNames(i + 1)
		wantSame(t, list, other, true)
		other[i].Spaced = false
		wantSame(t, list, other, true)
	}
	wantSame(t, []impl.Token{hiding("a")}, []impl.Token{hiding("b", "c")}, true)
	wantSame(t, []impl.Token{hiding()}, []impl.Token{hiding("b", "a")}, true)
}

// Promise 52: lists that differ in one kind, one text or their order are not the same.
func TestSameTextsOthers(t *testing.T) {
	list := allSorts()
	for i := range list {
		other := slices.Clone(list)
		other[i].Kind = list[i].Kind%4 + 1
		wantSame(t, list, other, false)
		other[i] = list[i]
		other[i].Text += "x"
		wantSame(t, list, other, false)
		other[i].Text = strings.ToUpper(list[i].Text) + " "
		wantSame(t, list, other, false)
		other[i].Text = ""
		wantSame(t, list, other, false)
		if i > 0 {
			other = slices.Clone(list)
			other[i-1], other[i] = other[i], other[i-1]
			wantSame(t, list, other, false)
		}
	}
	for i, a := range list {
		for k, b := range list {
			wantSame(t, []impl.Token{a}, []impl.Token{b}, i == k)
			wantSame(t, []impl.Token{a, b}, []impl.Token{b, a}, i == k)
		}
	}
	wantSame(t, []impl.Token{beside(aName, "ab")}, []impl.Token{beside(aName, "a"), beside(aName, "b")}, false)
	wantSame(t, []impl.Token{beside(aName, "a"), beside(aName, "bc")}, []impl.Token{beside(aName, "ab"), beside(aName, "c")}, false)
	wantSame(t, []impl.Token{beside(aName, "a")}, []impl.Token{beside(aName, "A")}, false)
}

// Promise 52: lists of any tokens are compared, also those that are not valid, or too many.
func TestSameTextsInvalid(t *testing.T) {
	wrong := wrongTokens()
	wantSame(t, wrong, slices.Clone(wrong), true)
	wantSame(t, []impl.Token{{}}, []impl.Token{{}}, true)
	wantSame(t, []impl.Token{{}}, nil, false)
	wantSame(t, []impl.Token{{}}, []impl.Token{{Kind: aName}}, false)
	wantSame(t, []impl.Token{{}}, []impl.Token{{Text: "a"}}, false)
	wantSame(t, []impl.Token{{Spaced: true}}, []impl.Token{{}}, true)
	many := manyTokens(beside(aName, "a"), 2*impl.MaxTokens)
	wantSame(t, many, slices.Clone(many), true)
	wantSame(t, many, many[1:], false)
	other := slices.Clone(many)
	other[len(other)-1].Text = "b"
	wantSame(t, many, other, false)
}

// The general rules: arguments are not written to, and no state is kept.
func TestPrintTokensKeepsArguments(t *testing.T) {
	list := []impl.Token{apart(aName, "a"), beside(aName, "b"), beside(aMark, "/"), beside(aMark, "/"), hiding("a", "b"), beside(aName, "beyond")}
	want := []impl.Token{apart(aName, "a"), beside(aName, "b"), beside(aMark, "/"), beside(aMark, "/"), hiding("a", "b"), beside(aName, "beyond")}
	for range 2 {
		wantPrinted(t, "a b/ /a", list[:5]...)
		wantUnprinted(t, textOf(200), beside(aName, "a"))
		wantSame(t, list[:5], want[:5], true)
		wantTokensValid(t, list[:5], true)
		if !reflect.DeepEqual(list, want) {
			t.Fatalf("the tokens are now %v", list)
		}
	}
}
