package tests

import (
	"reflect"
	"regexp"
	"slices"
	"strings"
	"testing"

	"loop.example/macroprocessor/impl"
)

const (
	aName   = impl.TokenName
	aNumber = impl.TokenNumber
	aText   = impl.TokenText
	aMark   = impl.TokenMark
)

var (
	doubleMarks = []string{"==", "!=", "<=", ">=", "&&", "||", "##"}
	singleMarks = []string{"+", "-", "*", "/", "%", "<", ">", "=", "!", "&", "|", "(", ")", ",", "#", ";", "?", ":", "{", "}", "[", "]", "."}
)

// beside and apart return a token that is not Spaced, and one that is.
func beside(kind int, s string) impl.Token {
	return impl.Token{Kind: kind, Text: s}
}

func apart(kind int, s string) impl.Token {
	return impl.Token{Kind: kind, Text: s, Spaced: true}
}

// sameTokens reports whether two lists of tokens are equal, where no Hidden names are the same as nil.
func sameTokens(a []impl.Token, b []impl.Token) bool {
	return slices.EqualFunc(a, b, func(x, y impl.Token) bool {
		return x.Kind == y.Kind && x.Text == y.Text && x.Spaced == y.Spaced && slices.Equal(x.Hidden, y.Hidden)
	})
}

// wantTokens checks TokensOf of a line that has tokens.
func wantTokens(t *testing.T, line string, want ...impl.Token) {
	t.Helper()
	if got, ok := impl.TokensOf(line); !ok || !sameTokens(got, want) {
		t.Errorf("TokensOf(%q) = %v, %v, want %v, true", line, got, ok, want)
	}
}

// wantNoTokens checks TokensOf of a line that cannot be divided.
func wantNoTokens(t *testing.T, line string) {
	t.Helper()
	if got, ok := impl.TokensOf(line); ok || len(got) != 0 {
		t.Errorf("TokensOf(%q) = %v, %v, want nothing and false", line, got, ok)
	}
}

// wantValid checks TokenValid.
func wantValid(t *testing.T, token impl.Token, want bool) {
	t.Helper()
	if impl.TokenValid(token) != want {
		t.Errorf("TokenValid(%+v) = %v, want %v", token, !want, want)
	}
}

func TestConstantsOfTokens(t *testing.T) {
	got := []int{impl.TokenName, impl.TokenNumber, impl.TokenText, impl.TokenMark, impl.MaxTokens, impl.MaxName}
	if !slices.Equal(got, []int{1, 2, 3, 4, 60, 12}) {
		t.Errorf("the constants of tokens are %v", got)
	}
}

// Promise 50: ordinary lines.
func TestTokensOfLines(t *testing.T) {
	wantTokens(t, "")
	wantTokens(t, "a", beside(aName, "a"))
	wantTokens(t, "f(1)", beside(aName, "f"), beside(aMark, "("), beside(aNumber, "1"), beside(aMark, ")"))
	wantTokens(t, "#define f(x) x + x",
		beside(aMark, "#"), beside(aName, "define"), apart(aName, "f"), beside(aMark, "("), beside(aName, "x"), beside(aMark, ")"),
		apart(aName, "x"), apart(aMark, "+"), apart(aName, "x"))
	wantTokens(t, `#include "a.h"`, beside(aMark, "#"), beside(aName, "include"), apart(aText, `"a.h"`))
	wantTokens(t, `s="a b"+t`, beside(aName, "s"), beside(aMark, "="), beside(aText, `"a b"`), beside(aMark, "+"), beside(aName, "t"))
	wantTokens(t, "a ## b", beside(aName, "a"), apart(aMark, "##"), apart(aName, "b"))
	wantTokens(t, "defined(a)&&!b", beside(aName, "defined"), beside(aMark, "("), beside(aName, "a"), beside(aMark, ")"), beside(aMark, "&&"), beside(aMark, "!"), beside(aName, "b"))
}

// Promise 50: spaces are in no token, and the one behind them is Spaced, the first one too.
func TestTokensOfSpaces(t *testing.T) {
	wantTokens(t, " ")
	wantTokens(t, strings.Repeat(" ", impl.MaxLine))
	wantTokens(t, " a", apart(aName, "a"))
	wantTokens(t, "   a", apart(aName, "a"))
	wantTokens(t, "a ", beside(aName, "a"))
	wantTokens(t, "a   ", beside(aName, "a"))
	wantTokens(t, " a ", apart(aName, "a"))
	wantTokens(t, "a b", beside(aName, "a"), apart(aName, "b"))
	wantTokens(t, "a     b", beside(aName, "a"), apart(aName, "b"))
	wantTokens(t, "a +b", beside(aName, "a"), apart(aMark, "+"), beside(aName, "b"))
	wantTokens(t, "a+ b", beside(aName, "a"), beside(aMark, "+"), apart(aName, "b"))
	wantTokens(t, "1 2", beside(aNumber, "1"), apart(aNumber, "2"))
	wantTokens(t, `"a" "b"`, beside(aText, `"a"`), apart(aText, `"b"`))
	wantTokens(t, `  "a"b  +1 `, apart(aText, `"a"`), beside(aName, "b"), apart(aMark, "+"), beside(aNumber, "1"))
}

// Promise 50: letters, digits and _ that follow each other are one name or one number.
func TestTokensOfWords(t *testing.T) {
	for _, s := range []string{"a", "z", "A", "Z", "_", "__", "a1", "_1", "Ab_9", "x0y", "A_b_C_d_9_Z", "defined"} {
		wantTokens(t, s, beside(aName, s))
	}
	for _, s := range []string{"0", "9", "00", "007", "12x", "1_", "1a1", "0x1f", "9A_z", "1e5", "123456789012"} {
		wantTokens(t, s, beside(aNumber, s))
	}
	wantTokens(t, "1.5", beside(aNumber, "1"), beside(aMark, "."), beside(aNumber, "5"))
	wantTokens(t, "1e-5", beside(aNumber, "1e"), beside(aMark, "-"), beside(aNumber, "5"))
	wantTokens(t, "-1", beside(aMark, "-"), beside(aNumber, "1"))
	wantTokens(t, "a.b", beside(aName, "a"), beside(aMark, "."), beside(aName, "b"))
	wantTokens(t, "a 1", beside(aName, "a"), apart(aNumber, "1"))
	wantTokens(t, "1 a", beside(aNumber, "1"), apart(aName, "a"))
}

// Promise 50: every byte that may be in a name, first in it, within it and last in it.
func TestTokensOfWordBytes(t *testing.T) {
	for b := range 256 {
		s := string([]byte{byte(b)})
		letter := 'a' <= b && b <= 'z' || 'A' <= b && b <= 'Z' || b == '_'
		digit := '0' <= b && b <= '9'
		if letter {
			wantTokens(t, s, beside(aName, s))
			wantTokens(t, s+"1", beside(aName, s+"1"))
		}
		if digit {
			wantTokens(t, s, beside(aNumber, s))
			wantTokens(t, s+"a", beside(aNumber, s+"a"))
		}
		if letter || digit {
			wantTokens(t, "a"+s, beside(aName, "a"+s))
			wantTokens(t, "a"+s+"b", beside(aName, "a"+s+"b"))
			wantTokens(t, "1"+s, beside(aNumber, "1"+s))
			wantTokens(t, "1"+s+"2", beside(aNumber, "1"+s+"2"))
		} else if got, ok := impl.TokensOf("a" + s + "b"); ok && len(got) < 2 {
			t.Errorf("%q is in a name", s)
		}
	}
}

// Promise 50: a name or number has exactly MaxName bytes at most, wherever it stands.
func TestTokensOfLongWords(t *testing.T) {
	for _, first := range []string{"a", "_", "Z", "0", "9"} {
		kind := aName
		if first < "A" {
			kind = aNumber
		}
		for _, rest := range []string{"b", "_", "Y", "7"} {
			most := first + strings.Repeat(rest, impl.MaxName-1)
			wantTokens(t, most, beside(kind, most))
			wantTokens(t, "  "+most+" ", apart(kind, most))
			wantTokens(t, "+"+most+"+", beside(aMark, "+"), beside(kind, most), beside(aMark, "+"))
			wantTokens(t, most+" "+most, beside(kind, most), apart(kind, most))
			wantTokens(t, most+`"a"`, beside(kind, most), beside(aText, `"a"`))
			for _, line := range []string{most + rest, most + first, " " + most + rest, "a " + most + rest + " b", "(" + most + rest + ")", `"a"` + most + rest, strings.Repeat(most, 2), strings.Repeat(most, 16)} {
				wantNoTokens(t, line)
			}
		}
	}
	wantTokens(t, "abcdefghijkl", beside(aName, "abcdefghijkl"))
	wantNoTokens(t, "abcdefghijklm")
	wantTokens(t, "123456789012", beside(aNumber, "123456789012"))
	wantNoTokens(t, "1234567890123")
}

// Promise 50: a text has its quotes, and all that is between them.
func TestTokensOfTexts(t *testing.T) {
	for _, s := range []string{`""`, `" "`, `"a"`, `"a b"`, `"  "`, `"@$~^'` + "`" + `"`, `"// a"`, `"/* a */"`, `"=="`, `"abcdefghijklmnop"`} {
		wantTokens(t, s, beside(aText, s))
		wantTokens(t, " "+s+" ", apart(aText, s))
	}
	wantTokens(t, `""""`, beside(aText, `""`), beside(aText, `""`))
	wantTokens(t, `"a""b"`, beside(aText, `"a"`), beside(aText, `"b"`))
	wantTokens(t, `a"b"c`, beside(aName, "a"), beside(aText, `"b"`), beside(aName, "c"))
	wantTokens(t, `1"b"1`, beside(aNumber, "1"), beside(aText, `"b"`), beside(aNumber, "1"))
	wantTokens(t, `("b")`, beside(aMark, "("), beside(aText, `"b"`), beside(aMark, ")"))
	wantTokens(t, `#"b"#`, beside(aMark, "#"), beside(aText, `"b"`), beside(aMark, "#"))
	wantTokens(t, `"a" "" b`, beside(aText, `"a"`), apart(aText, `""`), apart(aName, "b"))
}

// Promise 50: in a text a byte directly behind a backslash is skipped, as is the backslash.
func TestTokensOfBackslashes(t *testing.T) {
	for _, s := range []string{`"\""`, `"a\"b"`, `"\"\""`, `"\\"`, `"\\\\"`, `"\\\""`, `"\a"`, `"\n"`, `"\ "`, `"a\\b"`, `"\"a b\""`, `"\\\"\\"`} {
		wantTokens(t, s, beside(aText, s))
		wantTokens(t, "a"+s+"b", beside(aName, "a"), beside(aText, s), beside(aName, "b"))
		wantTokens(t, s+s, beside(aText, s), beside(aText, s))
	}
	wantTokens(t, `"\\"a"\""`, beside(aText, `"\\"`), beside(aName, "a"), beside(aText, `"\""`))
	wantTokens(t, `"\\" "b"`, beside(aText, `"\\"`), apart(aText, `"b"`))
	wantTokens(t, `"a\" "`, beside(aText, `"a\" "`))
}

// Promise 50: a text that does not end is no token, and a backslash outside of a text is none either.
func TestTokensOfOpenTexts(t *testing.T) {
	lines := []string{`"`, `"a`, `"a `, `" `, `"\"`, `"a\"`, `"\\\"`, `"\`, `"a\`, `"\\`, `"\\\`, `"a\" `, `"""`, `"a"b"`, `a"`, `a "b`, `1+"`, `"a" "`, `"a" "b\"`}
	lines = append(lines, `\`, `\\`, `\a`, `\"a"`, `\"a\"`, `a\`, `a \`, `"a"\`, `"a"\"b"`, `"\\"\`)
	for _, line := range lines {
		wantNoTokens(t, line)
	}
}

// Promise 50: every mark is one token, alone and beside others.
func TestTokensOfMarks(t *testing.T) {
	for _, s := range append(slices.Clone(singleMarks), doubleMarks...) {
		wantTokens(t, s, beside(aMark, s))
		wantTokens(t, " "+s+" ", apart(aMark, s))
		wantTokens(t, "a"+s+"b", beside(aName, "a"), beside(aMark, s), beside(aName, "b"))
		wantTokens(t, "1"+s+"2", beside(aNumber, "1"), beside(aMark, s), beside(aNumber, "2"))
		wantTokens(t, `"a"`+s+`"b"`, beside(aText, `"a"`), beside(aMark, s), beside(aText, `"b"`))
		wantTokens(t, s+" "+s, beside(aMark, s), apart(aMark, s))
		wantTokens(t, s+"(", beside(aMark, s), beside(aMark, "("))
		wantTokens(t, ")"+s, beside(aMark, ")"), beside(aMark, s))
	}
}

// Promise 50: two marks of one byte are one mark exactly if that is one of two bytes.
func TestTokensOfTwoMarks(t *testing.T) {
	for _, a := range singleMarks {
		for _, b := range singleMarks {
			if slices.Contains(doubleMarks, a+b) {
				wantTokens(t, a+b, beside(aMark, a+b))
			} else {
				wantTokens(t, a+b, beside(aMark, a), beside(aMark, b))
			}
			wantTokens(t, a+" "+b, beside(aMark, a), apart(aMark, b))
		}
	}
}

// Promise 50: marks of two bytes are taken before those of one, from the left to the right.
func TestTokensOfManyMarks(t *testing.T) {
	cases := []struct {
		line  string
		marks string
	}{
		{"===", "== ="},
		{"====", "== =="},
		{"=====", "== == ="},
		{"!==", "!= ="},
		{"=!=", "= !="},
		{"!!=", "! !="},
		{"<==", "<= ="},
		{"<<=", "< <="},
		{">>=", "> >="},
		{">==", ">= ="},
		{"=<=", "= <="},
		{"<=>", "<= >"},
		{"<=>=", "<= >="},
		{"&&&", "&& &"},
		{"&|&", "& | &"},
		{"|||", "|| |"},
		{"||||", "|| ||"},
		{"###", "## #"},
		{"####", "## ##"},
		{"+=", "+ ="},
		{"++", "+ +"},
		{"->", "- >"},
		{"<<", "< <"},
		{"//", "/ /"},
		{"/*", "/ *"},
		{"*/", "* /"},
		{"::", ": :"},
		{"...", ". . ."},
	}
	for _, c := range cases {
		var want []impl.Token
		for _, s := range strings.Fields(c.marks) {
			want = append(want, beside(aMark, s))
		}
		wantTokens(t, c.line, want...)
		wantTokens(t, c.line+" ", want...)
		wantTokens(t, "a"+c.line+"a", slices.Concat([]impl.Token{beside(aName, "a")}, want, []impl.Token{beside(aName, "a")})...)
	}
	wantTokens(t, "= =", beside(aMark, "="), apart(aMark, "="))
	wantTokens(t, "# #", beside(aMark, "#"), apart(aMark, "#"))
	wantTokens(t, "a==b=c", beside(aName, "a"), beside(aMark, "=="), beside(aName, "b"), beside(aMark, "="), beside(aName, "c"))
}

// Promise 50: with anything else a line has no tokens, wherever it is, but for a text.
func TestTokensOfOtherBytes(t *testing.T) {
	for b := range 256 {
		s := string([]byte{byte(b)})
		printed := 32 <= b && b <= 126
		if !printed || strings.Contains("@$^~`'\\", s) {
			for _, line := range []string{s, s + "a", "a" + s, "a" + s + "b", "1" + s, "a " + s, s + " ", "=" + s, `"a"` + s, s + `"a"`, "#" + s + "#"} {
				wantNoTokens(t, line)
			}
		}
		switch {
		case !printed:
			wantNoTokens(t, `"`+s+`"`)
			wantNoTokens(t, `"\`+s+`"`)
		case b != '"' && b != '\\':
			wantTokens(t, `"`+s+`"`, beside(aText, `"`+s+`"`))
			wantTokens(t, `"\`+s+`"`, beside(aText, `"\`+s+`"`))
			wantTokens(t, `"a\"`+s+`"`, beside(aText, `"a\"`+s+`"`))
		}
	}
	for _, line := range []string{"\n", "a\n", "\ta", "a\r", "\u00e9", "a\u4e16", "\"\u00e9\"", "\x00", "a\x00b"} {
		wantNoTokens(t, line)
	}
}

// Promise 50: a line has exactly MaxTokens tokens at most, whatever they are.
func TestTokensOfMany(t *testing.T) {
	parts := []struct {
		part  string
		count int
	}{
		{"a ", 1}, {"1 ", 1}, {" - ", 1}, {"(", 1}, {`""`, 1}, {"##", 1}, {"a+", 2}, {`a""`, 2}, {"==a", 2}, {"(,)", 3}, {"f(1) ", 4},
	}
	for _, p := range parts {
		most := strings.Repeat(p.part, impl.MaxTokens/p.count)
		got, ok := impl.TokensOf(most)
		if !ok || len(got) != impl.MaxTokens {
			t.Errorf("TokensOf(%q) has %d tokens, %v, want %d", most, len(got), ok, impl.MaxTokens)
		}
		if again, ok := impl.TokensOf(most + "  "); !ok || !sameTokens(again, got) {
			t.Errorf("TokensOf(%q) with spaces behind = %v, %v", most, again, ok)
		}
		for _, more := range []string{")", " )", " a", " 1", `""`, "!="} {
			wantNoTokens(t, most+more)
		}
		wantNoTokens(t, ")"+most)
		wantNoTokens(t, most+"@")
	}
	wantTokens(t, strings.Repeat("(", 59)+"==", append(slices.Repeat([]impl.Token{beside(aMark, "(")}, 59), beside(aMark, "=="))...)
	wantNoTokens(t, strings.Repeat("(", 59)+"=+")
	wantNoTokens(t, strings.Repeat("(", impl.MaxLine))
}

// Promise 50: a line of exactly MaxLine bytes has tokens, and one more byte, even a space, is too much.
func TestTokensOfLength(t *testing.T) {
	spaces := func(count int) string { return strings.Repeat(" ", count) }
	wantTokens(t, spaces(199)+"a", apart(aName, "a"))
	wantTokens(t, "a"+spaces(199), beside(aName, "a"))
	wantNoTokens(t, spaces(200)+"a")
	wantNoTokens(t, "a"+spaces(200))
	wantNoTokens(t, spaces(201))
	long := `"` + strings.Repeat("x", 198) + `"`
	wantTokens(t, long, beside(aText, long))
	wantNoTokens(t, " "+long)
	wantNoTokens(t, `"x`+long[1:])
	escaped := `"` + strings.Repeat(`\"`, 99) + `"`
	wantTokens(t, escaped, beside(aText, escaped))
	wantNoTokens(t, `"`+strings.Repeat("x", 199))
	wantNoTokens(t, `"`+strings.Repeat(`\"`, 99)+`\`)
	wantTokens(t, spaces(198)+"==", apart(aMark, "=="))
	wantTokens(t, spaces(199)+"=", apart(aMark, "="))
	wantTokens(t, spaces(188)+"abcdefghijkl", apart(aName, "abcdefghijkl"))
	wantNoTokens(t, spaces(199)+"@")
}

// dividedLine is another way to divide a line: one expression for every token.
func dividedLine(line string, tokens *regexp.Regexp) ([]impl.Token, bool) {
	kinds := []int{aName, aNumber, aText, aMark}
	var list []impl.Token
	for rest := line; strings.TrimLeft(rest, " ") != ""; {
		found := tokens.FindStringSubmatch(rest)
		if found == nil {
			return nil, false
		}
		for k, kind := range kinds {
			if found[k+2] != "" {
				list = append(list, impl.Token{Kind: kind, Text: found[k+2], Spaced: found[1] != ""})
			}
		}
		rest = rest[len(found[0]):]
	}
	return list, true
}

// checkTokens checks what promise 50 says of the tokens of a line.
func checkTokens(t *testing.T, line string, list []impl.Token) {
	for _, token := range list {
		only, ok := impl.TokensOf(token.Text)
		if !ok || len(only) != 1 || only[0].Kind != token.Kind || only[0].Text != token.Text || only[0].Spaced {
			t.Fatalf("TokensOf(%q) has %v, of which %v, %v are the tokens", line, token, only, ok)
		}
		spaced := token
		spaced.Text += " "
		if !impl.TokenValid(token) || impl.TokenValid(spaced) {
			t.Fatalf("TokensOf(%q) has %v, which is invalid, or is valid with a space behind it", line, token)
		}
	}
}

// Promise 50: for all short lines, as lines and as texts of tokens.
func TestTokensOfShortLines(t *testing.T) {
	tokens := regexp.MustCompile(`^( *)(?:([A-Za-z_][0-9A-Za-z_]*)|([0-9][0-9A-Za-z_]*)|("(?:\\.|[^"\\])*")|(==|!=|<=|>=|&&|\|\||##|[-+*/%<>=!&|(),#;?:{}\[\].]))`)
	for _, line := range append(linesOf(`a1 "\=#`, 6), linesOf("=!<>&|#+_0", 4)...) {
		want, wantOK := dividedLine(line, tokens)
		got, ok := impl.TokensOf(line)
		if !sameTokens(got, want) || ok != wantOK {
			t.Fatalf("TokensOf(%q) = %v, %v, want %v, %v", line, got, ok, want, wantOK)
		}
		checkTokens(t, line, got)
		for kind := aName; kind <= aMark; kind++ {
			valid := ok && len(got) == 1 && got[0].Kind == kind && got[0].Text == line
			if impl.TokenValid(beside(kind, line)) != valid {
				t.Fatalf("TokenValid of %q with the kind %d is %v", line, kind, !valid)
			}
		}
	}
}

// Promise 50: a token is valid with the one kind of its text, Spaced or not.
func TestTokenValidKinds(t *testing.T) {
	texts := map[int][]string{
		aName:   {"a", "_", "a1", "Z_9", "abcdefghijkl", "defined"},
		aNumber: {"0", "12x", "1_", "007", "123456789012"},
		aText:   {`""`, `"a"`, `"a b"`, `"a\"b"`, `"\\"`, `"//"`, `"` + strings.Repeat("x", 198) + `"`},
		aMark:   append(slices.Clone(singleMarks), doubleMarks...),
	}
	for right, list := range texts {
		for _, s := range list {
			for _, kind := range []int{-1, 0, aName, aNumber, aText, aMark, 5, 1 << 40} {
				wantValid(t, beside(kind, s), kind == right)
				wantValid(t, apart(kind, s), kind == right)
			}
			for _, other := range []string{s + " ", " " + s, " " + s + " ", s + " a", s + "(", s + `""`, s + "\n", "\n" + s, s + "@"} {
				wantValid(t, beside(right, other), false)
				wantValid(t, apart(right, other), false)
			}
		}
	}
}

// Promise 50: what is no token, or more than one, is not valid.
func TestTokenValidTexts(t *testing.T) {
	texts := []string{"", " ", "  ", "@", `\`, "a b", "a+b", "a(", "1.5", "-1", "===", "###", "+=", "//", `"`, `"a`, `"a\"`, `"\"`, `"a"b"`, `""""`, `"a" `, `a"b"`, "\n", "\x00", "\u00e9", "\"\n\"", "'a'"}
	texts = append(texts, "abcdefghijklm", "1234567890123", strings.Repeat("a", 201), `"`+strings.Repeat("x", 199)+`"`, strings.Repeat("(", 61), strings.Repeat(" ", 200)+"a")
	for _, s := range texts {
		for kind := range 6 {
			wantValid(t, beside(kind, s), false)
			wantValid(t, apart(kind, s), false)
		}
	}
	wantValid(t, impl.Token{}, false)
	wantValid(t, impl.Token{Kind: aName}, false)
	wantValid(t, impl.Token{Text: "a"}, false)
}

// hiding returns a valid token with Hidden names.
func hiding(names ...string) impl.Token {
	return impl.Token{Kind: aName, Text: "a", Hidden: names}
}

// Promise 50: Hidden names ascend by their bytes, each once.
func TestTokenValidHiddenOrder(t *testing.T) {
	valid := [][]string{nil, {}, {"a"}, {"b"}, {"a", "b"}, {"a", "b", "c"}, {"a", "aa"}, {"a", "a1", "aa"}, {"Z", "_", "a"}, {"B", "a"}, {"a0", "a1", "a_"}, {"a10", "a9"}, {"_", "__"}, {"abcdefghijk", "abcdefghijkl"}}
	for _, names := range valid {
		wantValid(t, hiding(names...), true)
		if len(names) > 1 {
			back := slices.Clone(names)
			slices.Reverse(back)
			wantValid(t, hiding(back...), false)
		}
		for i := range names {
			wantValid(t, hiding(slices.Insert(slices.Clone(names), i, names[i])...), false)
		}
	}
	invalid := [][]string{{"b", "a"}, {"a", "a"}, {"a", "c", "b"}, {"b", "a", "c"}, {"a", "b", "b"}, {"a", "b", "a"}, {"aa", "a"}, {"a", "B"}, {"a", "_"}, {"_", "Z"}, {"a9", "a10"}}
	for _, names := range invalid {
		wantValid(t, hiding(names...), false)
	}
}

// Promise 50: Hidden names are names, wherever they stand among others.
func TestTokenValidHiddenNames(t *testing.T) {
	for _, s := range []string{"m", "mM_9", "mnopqrstuvwx", "mdefined"} {
		wantValid(t, hiding(s), true)
		wantValid(t, hiding("a", s, "z"), true)
	}
	for _, s := range []string{"", " ", "m ", " m", "m n", "1", "12x", "m.n", "m(", "+", "==", "##", `""`, `"m"`, "@", "m\n", "m@", "\u00e9", "mnopqrstuvwxy", strings.Repeat("m", 201)} {
		for _, names := range [][]string{{s}, {s, "z"}, {"A", s}, {"A", s, "z"}} {
			wantValid(t, hiding(names...), false)
			slices.Sort(names)
			wantValid(t, hiding(names...), false)
		}
	}
}

// manyNames returns a number of names that ascend.
func manyNames(count int) []string {
	var names []string
	for i := range count {
		names = append(names, "n"+string([]byte{byte('0' + i/10), byte('0' + i%10)}))
	}
	return names
}

// Promise 50: there are exactly MaxTokens Hidden names at most.
func TestTokenValidHiddenMany(t *testing.T) {
	for _, count := range []int{impl.MaxTokens - 1, impl.MaxTokens} {
		wantValid(t, hiding(manyNames(count)...), true)
	}
	wantValid(t, hiding(manyNames(impl.MaxTokens+1)...), false)
	wantValid(t, hiding(make([]string, 1000)...), false)
	last := manyNames(impl.MaxTokens)
	last[len(last)-1] = "1"
	wantValid(t, hiding(last...), false)
}

// Promise 50: tokens of all kinds may have Hidden names, their own among them, and each must be valid itself.
func TestTokenValidHiddenKinds(t *testing.T) {
	texts := []string{aName: "b", aNumber: "1", aText: `"b"`, aMark: "=="}
	for kind := aName; kind <= aMark; kind++ {
		for _, spaced := range []bool{false, true} {
			token := impl.Token{Kind: kind, Text: texts[kind], Spaced: spaced, Hidden: []string{"a", "b"}}
			wantValid(t, token, true)
			token.Text += " "
			wantValid(t, token, false)
			token.Text = texts[kind]
			token.Hidden = []string{"b", "a"}
			wantValid(t, token, false)
			token.Hidden = []string{"a", "1"}
			wantValid(t, token, false)
			token.Hidden = []string{"a"}
			token.Kind = kind%4 + 1
			wantValid(t, token, false)
		}
	}
}

// The general rules: results are new, arguments are not written to, and no state is kept.
func TestTokensOfNewResults(t *testing.T) {
	line := `f(1) "a" ##`
	first, _ := impl.TokensOf(line)
	want := slices.Clone(first)
	second, _ := impl.TokensOf(line)
	for i := range first {
		first[i] = impl.Token{Kind: -1, Text: "changed", Hidden: []string{"changed"}}
	}
	_ = append(first, impl.Token{})
	if !reflect.DeepEqual(second, want) {
		t.Errorf("TokensOf(%q) is now %v, want %v", line, second, want)
	}
	wantTokens(t, line, want...)
	token := impl.Token{Kind: aName, Text: "a", Hidden: []string{"b", "a", "c"}}
	wantValid(t, token, false)
	part := token
	part.Hidden = token.Hidden[1:]
	wantValid(t, part, true)
	if !slices.Equal(token.Hidden, []string{"b", "a", "c"}) {
		t.Errorf("the Hidden names are now %v", token.Hidden)
	}
}
