package tests

import (
	"reflect"
	"regexp"
	"slices"
	"strings"
	"testing"

	"loop.example/macroprocessor/impl"
)

// isNoToken reports whether a token is the zero value, where no Hidden names are the same as nil.
func isNoToken(token impl.Token) bool {
	return sameTokens([]impl.Token{token}, []impl.Token{{}})
}

// wantText checks TextToken of tokens that have a text, and what promise 6 says of it.
func wantText(t *testing.T, want string, list ...impl.Token) {
	t.Helper()
	got, ok := impl.TextToken(list)
	if !ok || !sameTokens([]impl.Token{got}, []impl.Token{beside(aText, want)}) {
		t.Errorf("TextToken(%v) = %+v, %v, want %s, true", list, got, ok, want)
	}
	checkText(t, list)
}

// wantNoText checks TextToken of tokens that have no text.
func wantNoText(t *testing.T, list ...impl.Token) {
	t.Helper()
	if got, ok := impl.TextToken(list); ok || !isNoToken(got) {
		t.Errorf("TextToken(%v) = %+v, %v, want nothing and false", list, got, ok)
	}
}

// wantBytes checks TokenBytes of a TokenText, Spaced or not, with Hidden names or without them.
func wantBytes(t *testing.T, text string, want string) {
	t.Helper()
	for _, token := range []impl.Token{beside(aText, text), apart(aText, text), {Kind: aText, Text: text, Hidden: []string{"a", "b"}}} {
		if got, ok := impl.TokenBytes(token); !ok || got != want {
			t.Errorf("TokenBytes(%+v) = %q, %v, want %q, true", token, got, ok, want)
		}
	}
}

// wantNoBytes checks TokenBytes of a token that stands for nothing.
func wantNoBytes(t *testing.T, token impl.Token) {
	t.Helper()
	if got, ok := impl.TokenBytes(token); ok || got != "" {
		t.Errorf("TokenBytes(%+v) = %q, %v, want nothing and false", token, got, ok)
	}
}

// spacedLine returns the texts of tokens, with a space before each that is Spaced, but the first one.
func spacedLine(list []impl.Token) string {
	line := ""
	for i, token := range list {
		if i > 0 && token.Spaced {
			line += " "
		}
		line += token.Text
	}
	return line
}

// quoted is another way to put bytes into a text. Only a TokenText has bytes that need a backslash, so it may replace all at once.
func quoted(s string) string {
	return `"` + strings.ReplaceAll(strings.ReplaceAll(s, `\`, `\\`), `"`, `\"`) + `"`
}

// checkText checks what promise 6 says of valid tokens, and reports whether they have a text and are printed alike.
func checkText(t *testing.T, list []impl.Token) bool {
	t.Helper()
	line := spacedLine(list)
	want := quoted(line)
	token, ok := impl.TextToken(list)
	if len(want) > impl.MaxLine {
		if ok || !isNoToken(token) {
			t.Fatalf("TextToken(%v) = %+v, %v, want nothing and false", list, token, ok)
		}
		return false
	}
	if !ok || !sameTokens([]impl.Token{token}, []impl.Token{beside(aText, want)}) || !impl.TokenValid(token) {
		t.Fatalf("TextToken(%v) = %+v, %v, want %s, true", list, token, ok, want)
	}
	bytes, ok := impl.TokenBytes(token)
	if !ok || bytes != line {
		t.Fatalf("TokenBytes(%+v) = %q, %v, want %q, true", token, bytes, ok, line)
	}
	if printed, ok := impl.PrintTokens(list); !ok || printed != bytes {
		return false
	}
	if again, ok := impl.TokensOf(bytes); !ok || !sameKindsAndTexts(again, list) {
		t.Fatalf("TokenBytes(%+v) = %q is divided into %v, %v, want %v", token, bytes, again, ok, list)
	}
	return true
}

// Promise 6: ordinary tokens, one behind the other.
func TestTextTokenOfLines(t *testing.T) {
	lines := []string{"a", "1", "+", "f(1)", "x + x", "f(x) x + x", "#define f(x) x + x", "a ## b", "a.b , c", "x ? y : z", "{ [ ( ) ] }", "!a", "-1", "a==b", "// a", "a b"}
	for _, line := range lines {
		wantText(t, `"`+line+`"`, tokensOf(t, line)...)
	}
	wantText(t, `"a + b"`, tokensOf(t, "  a   +  b  ")...)
	wantText(t, `"a+b"`, besides(t, "a + b")...)
	wantText(t, `"a"`, hiding("a", "b"))
}

// Promise 6: the text of no tokens is empty.
func TestTextTokenOfNothing(t *testing.T) {
	wantText(t, `""`)
	wantText(t, `""`, []impl.Token{}...)
	wantText(t, `""`, tokensOf(t, "   ")...)
	wantText(t, `""`, tokensOf(t, "a")[:0]...)
	wantBytes(t, `""`, "")
}

// Promise 6: a space is before each token that is Spaced, but not before the first one.
func TestTextTokenSpaces(t *testing.T) {
	a, plus, b := beside(aName, "a"), beside(aMark, "+"), beside(aText, `"b"`)
	for spaces, want := range []string{`"a+\"b\""`, `"a+\"b\""`, `"a +\"b\""`, `"a +\"b\""`, `"a+ \"b\""`, `"a+ \"b\""`, `"a + \"b\""`, `"a + \"b\""`} {
		a.Spaced, plus.Spaced, b.Spaced = spaces&1 != 0, spaces&2 != 0, spaces&4 != 0
		wantText(t, want, a, plus, b)
	}
	for _, token := range allSorts() {
		spaced := apart(token.Kind, token.Text)
		wantText(t, quoted(token.Text), token)
		wantText(t, quoted(token.Text), spaced)
		wantText(t, quoted(token.Text+" "+token.Text), spaced, spaced)
		wantText(t, quoted(token.Text+" ("+token.Text), spaced, apart(aMark, "("), token)
	}
}

// Promise 6: no further spaces are between tokens, though PrintTokens needs them.
func TestTextTokenTouching(t *testing.T) {
	cases := [][2]string{{"a b", `"ab"`}, {"1 2", `"12"`}, {"1 a", `"1a"`}, {"= =", `"=="`}, {"# #", `"##"`}, {"/ /", `"//"`}, {"/ * a * /", `"/*a*/"`}, {"abcdefghijkl m", `"abcdefghijklm"`}}
	for _, c := range cases {
		list := besides(t, c[0])
		wantText(t, c[1], list...)
		if checkText(t, list) {
			t.Errorf("the tokens of %q are printed alike", c[0])
		}
	}
}

// Promise 6: a backslash is before every double quote and every backslash of a text.
func TestTextTokenOfTexts(t *testing.T) {
	cases := [][2]string{
		{`""`, `"\"\""`},
		{`"a"`, `"\"a\""`},
		{`"a b"`, `"\"a b\""`},
		{`"\""`, `"\"\\\"\""`},
		{`"\\"`, `"\"\\\\\""`},
		{`"\n"`, `"\"\\n\""`},
		{`"\\\""`, `"\"\\\\\\\"\""`},
		{`"\\" "\""`, `"\"\\\\\" \"\\\"\""`},
		{`""""`, `"\"\"\"\""`},
		{`"" ""`, `"\"\" \"\""`},
		{`s = "a\tb" + 1`, `"s = \"a\\tb\" + 1"`},
		{`a + "b\""`, `"a + \"b\\\"\""`},
		{`"//" "/* */"`, `"\"//\" \"/* */\""`},
	}
	for _, c := range cases {
		wantText(t, c[1], tokensOf(t, c[0])...)
		wantBytes(t, c[1], c[0])
	}
}

// Promises 6 and 61: texts in texts in texts, as long as they are not longer than MaxLine.
func TestTextTokenOfTextTokens(t *testing.T) {
	wantText(t, `"\"\\\"a\\\"\""`, beside(aText, `"\"a\""`))
	for _, line := range []string{"", "a", "a + b", `"`, `\`, `\"`, `a "b" \`, "f(x) //", "/*"} {
		token := beside(aText, quoted(line))
		wantBytes(t, token.Text, line)
		deep := 0
		for ; len(quoted(token.Text)) <= impl.MaxLine; deep++ {
			within := token.Text
			wantText(t, quoted(within), token)
			token, _ = impl.TextToken([]impl.Token{token})
			wantBytes(t, token.Text, within)
		}
		wantNoText(t, token)
		if deep < 4 {
			t.Errorf("only %d texts are around %q", deep, line)
		}
	}
}

// Promise 6: all two and all three tokens, Spaced or not.
func TestTextTokenOfShortLists(t *testing.T) {
	alike, other := 0, 0
	check := func(list ...impl.Token) {
		if checkText(t, list) {
			alike++
		} else {
			other++
		}
	}
	for i, a := range allSorts() {
		for k, b := range allSorts() {
			for spaces := range 4 {
				a.Spaced, b.Spaced = spaces%2 == 1, spaces >= 2
				check(a, b)
			}
			for n, c := range allSorts() {
				a.Spaced, b.Spaced, c.Spaced = i%2 == 0, (i+k)%2 == 0, (k+n)%2 == 0
				check(a, b, c)
			}
		}
	}
	if alike < 10000 || other < 1000 {
		t.Errorf("%d lists are printed alike, and %d are not", alike, other)
	}
}

// Promise 6: the tokens of all short lines, which are printed alike but where // and /* are.
func TestTextTokenOfShortLines(t *testing.T) {
	for _, line := range slices.Concat(linesOf(`a "\`, 7), linesOf(`1 "\/*`, 6)) {
		list, ok := impl.TokensOf(line)
		if !ok {
			continue
		}
		alike := checkText(t, list)
		if stripped, ok := impl.StripComments(line); ok && stripped == line && !alike {
			t.Fatalf("the text of the tokens of %q stands for another line", line)
		}
	}
}

// Promise 6: long lists in many orders, up to MaxLine and one token further.
func TestTextTokenOfMixedLists(t *testing.T) {
	sorts := allSorts()
	lists, long := 0, 0
	for start := 0; start < len(sorts); start += 4 {
		for stride := range sorts {
			lists++
			var list []impl.Token
			for i := range impl.MaxTokens {
				token := sorts[(start+i*stride)%len(sorts)]
				token.Spaced = (start+i*i)%5 == 0
				list = append(list, token)
				checkText(t, list)
				if len(quoted(spacedLine(list))) > impl.MaxLine {
					long++
					break
				}
			}
		}
	}
	if long < 50 || lists-long < 50 {
		t.Errorf("%d of %d lists become too long", long, lists)
	}
}

// Promise 6: exactly MaxLine bytes at most are a text, with its quotes, its spaces and its backslashes.
func TestTextTokenLength(t *testing.T) {
	paren, spacedParen, empty := beside(aMark, "("), apart(aMark, "("), beside(aText, `""`)
	names := manyTokens(beside(aName, "abcdefghijkl"), 16)
	// Within a text a TokenText has 2 bytes more, and as many as it has backslashes and double quotes.
	quotes := beside(aText, `"`+strings.Repeat(`\"`, 48)+`"`)
	slashes := beside(aText, `"`+strings.Repeat(`\\`, 48)+`"`)
	fit := [][]impl.Token{
		{textOf(196)},
		{apart(aText, textOf(196).Text)},
		{textOf(195), paren},
		{textOf(194), spacedParen},
		{apart(aText, textOf(195).Text), paren},
		{textOf(192), empty},
		{textOf(191), apart(aText, `""`)},
		append(slices.Clone(names), beside(aName, "abcdef")),
		append(slices.Clone(names), apart(aName, "abcde")),
		{quotes, paren, paren},
		{paren, slashes, paren},
		{quotes, spacedParen},
	}
	for _, list := range fit {
		checkText(t, list)
		if token, ok := impl.TextToken(list); !ok || len(token.Text) != impl.MaxLine {
			t.Errorf("TextToken(%v) has %d bytes, %v", list, len(token.Text), ok)
		}
		wantNoText(t, append(slices.Clone(list), paren)...)
		wantNoText(t, append([]impl.Token{paren}, list...)...)
		wantNoText(t, append(slices.Clone(list), list...)...)
	}
	for _, list := range [][]impl.Token{{textOf(197)}, {textOf(200)}, {textOf(196), paren}, {textOf(195), spacedParen}, {textOf(193), empty}, {quotes, paren, spacedParen}, {slashes, empty}, manyTokens(textOf(200), impl.MaxTokens)} {
		wantTokensValid(t, list, true)
		wantNoText(t, list...)
	}
	// A text of MaxLine bytes stands for fewer, and has none around it.
	token, _ := impl.TextToken(fit[0])
	wantBytes(t, token.Text, fit[0][0].Text)
	wantNoText(t, token)
	wantBytes(t, textOf(200).Text, strings.Repeat("x", 198))
}

// Promise 6: a text has exactly MaxTokens tokens at most.
func TestTextTokenMany(t *testing.T) {
	for _, token := range []impl.Token{beside(aMark, "("), apart(aMark, "("), beside(aName, "a"), beside(aMark, "##"), hiding("a", "b")} {
		for _, count := range []int{1, impl.MaxTokens - 1, impl.MaxTokens} {
			list := manyTokens(token, count)
			wantText(t, `"`+spacedLine(list)+`"`, list...)
		}
		wantNoText(t, manyTokens(token, impl.MaxTokens+1)...)
		wantNoText(t, manyTokens(token, 2*impl.MaxTokens)...)
	}
}

// Promise 6: with a token that is not valid, anywhere, tokens have no text.
func TestTextTokenInvalid(t *testing.T) {
	a, text, b := beside(aName, "a"), beside(aText, `"\""`), apart(aName, "b")
	for _, wrong := range wrongTokens() {
		for _, list := range [][]impl.Token{{wrong}, {wrong, wrong}, {wrong, text, b}, {a, wrong, b}, {a, text, wrong}, {a, text, b, wrong}} {
			wantNoText(t, list...)
		}
		for i := range impl.MaxTokens {
			list := manyTokens(a, impl.MaxTokens)
			list[i] = wrong
			wantNoText(t, list...)
		}
	}
	for _, s := range []string{`"`, `"a`, `"\"`, `"a"b"`, `a"`, ` "a"`, `"a" `, "\"\n\"", "\"\x7f\""} {
		wantNoText(t, beside(aText, s))
		wantNoText(t, a, beside(aText, s), b)
	}
}

// Promise 61: backslashes that stand before another byte are left out, but for those that are skipped.
func TestTokenBytesBackslashes(t *testing.T) {
	cases := [][2]string{
		{`""`, ""},
		{`"a"`, "a"},
		{`" "`, " "},
		{`"  a  b  "`, "  a  b  "},
		{`"a.h"`, "a.h"},
		{`"a\nb"`, "anb"},
		{`"\a"`, "a"},
		{`"\ "`, " "},
		{`"\""`, `"`},
		{`"\\"`, `\`},
		{`"\\\""`, `\"`},
		{`"\\\\"`, `\\`},
		{`"\\n"`, `\n`},
		{`"\\\n"`, `\n`},
		{`"\\\\n"`, `\\n`},
		{`"a\"b\"c"`, `a"b"c`},
		{`"\x41\0"`, "x410"},
		{`"//"`, "//"},
		{`"\/* \*/"`, "/* */"},
		{`"'"`, "'"},
	}
	for _, c := range cases {
		wantBytes(t, c[0], c[1])
	}
	for value := 32; value <= 126; value++ {
		b := string([]byte{byte(value)})
		wantBytes(t, `"\`+b+`"`, b)
		wantBytes(t, `"a\`+b+`b\\"`, "a"+b+`b\`)
		if b != `"` && b != `\` {
			wantBytes(t, `"`+b+`"`, b)
			wantBytes(t, `"a`+b+`\`+b+`b"`, "a"+b+b+"b")
		}
	}
}

// Promises 6 and 61: all short texts; in each, a byte and a backslash before it stand for that byte.
func TestTokenBytesOfShortTexts(t *testing.T) {
	closed := regexp.MustCompile(`^"(?:\\.|[^"\\])*"$`)
	skipping := regexp.MustCompile(`\\(.)`)
	valid, open := 0, 0
	for _, line := range linesOf(`a "\n`, 6) {
		text := `"` + line + `"`
		if !closed.MatchString(text) {
			open++
			wantNoBytes(t, beside(aText, text))
			wantNoText(t, beside(aText, text))
			continue
		}
		valid++
		want := skipping.ReplaceAllString(line, "$1")
		if got, ok := impl.TokenBytes(beside(aText, text)); !ok || got != want {
			t.Fatalf("TokenBytes of %s = %q, %v, want %q, true", text, got, ok, want)
		}
		checkStandsFor(t, beside(aText, text))
		// Any bytes may be what a text stands for.
		wantBytes(t, quoted(line), line)
	}
	if valid < 1000 || open < 1000 {
		t.Errorf("%d texts are valid, and %d are not", valid, open)
	}
}

// checkStandsFor checks what promise 61 says of a valid token whose text is not too long for a text.
func checkStandsFor(t *testing.T, token impl.Token) {
	t.Helper()
	text, ok := impl.TextToken([]impl.Token{token})
	if !ok || !impl.TokenValid(text) {
		t.Fatalf("TextToken of %+v = %+v, %v", token, text, ok)
	}
	if got, ok := impl.TokenBytes(text); !ok || got != token.Text {
		t.Fatalf("TextToken of %+v stands for %q, %v", token, got, ok)
	}
}

// Promise 61: tokens of all kinds, Spaced or not, with Hidden names or without them.
func TestTokenBytesOfOneToken(t *testing.T) {
	for _, token := range allSorts() {
		for _, spaced := range []bool{false, true} {
			for count := range 3 {
				token.Spaced, token.Hidden = spaced, manyNames(count)
				checkStandsFor(t, token)
			}
		}
	}
	for length := 2; length <= 196; length++ {
		checkStandsFor(t, textOf(length))
	}
	for count := range 49 {
		checkStandsFor(t, beside(aText, `"`+strings.Repeat(`\"`, count)+`"`))
		checkStandsFor(t, beside(aText, `"`+strings.Repeat(`\\`, count)+`"`))
		checkStandsFor(t, beside(aText, `"`+strings.Repeat(`\n`, count)+`"`))
	}
}

// Promise 61: tokens of other kinds stand for nothing.
func TestTokenBytesOtherKinds(t *testing.T) {
	for _, token := range allSorts() {
		want := token.Kind == aText
		if _, ok := impl.TokenBytes(token); ok != want {
			t.Errorf("TokenBytes(%+v) is %v, want %v", token, ok, want)
		}
		for _, kind := range []int{-1, 0, aName, aNumber, aText, aMark, 5} {
			if kind != aText || token.Kind != aText {
				wantNoBytes(t, beside(kind, token.Text))
				wantNoBytes(t, apart(kind, token.Text))
			}
		}
	}
	wantNoBytes(t, impl.Token{})
}

// Promise 61: a TokenText that is not valid stands for nothing.
func TestTokenBytesInvalid(t *testing.T) {
	for _, wrong := range wrongTokens() {
		wantNoBytes(t, wrong)
		wrong.Kind = aText
		if !impl.TokenValid(wrong) {
			wantNoBytes(t, wrong)
		}
	}
	texts := []string{"", " ", "a", `"`, `\`, `"a`, `a"`, `"\"`, `"\\\"`, `"a\`, `"a"b"`, `"""`, `""""`, `"a" "b"`, `"a" `, ` "a"`, `"a"b`, `"a"+`, "\"\n\"", "\"\\\n\"", "\"\x00\"", "\"\x7f\"", "\"\u00e9\"", "'a'"}
	texts = append(texts, `"`+strings.Repeat("x", 199)+`"`, `"`+strings.Repeat("x", 199), `"`+strings.Repeat("x", 1000)+`"`)
	for _, text := range texts {
		wantNoBytes(t, beside(aText, text))
		wantNoBytes(t, apart(aText, text))
	}
	for _, names := range [][]string{{"b", "a"}, {"a", "a"}, {"1"}, {""}, {`"a"`}, manyNames(impl.MaxTokens + 1)} {
		wantNoBytes(t, impl.Token{Kind: aText, Text: `"a"`, Hidden: names})
	}
	most := impl.Token{Kind: aText, Text: `"a"`, Hidden: manyNames(impl.MaxTokens)}
	if got, ok := impl.TokenBytes(most); !ok || got != "a" {
		t.Errorf("TokenBytes(%+v) = %q, %v", most, got, ok)
	}
}

// The general rules: arguments are not written to, and no state is kept.
func TestTextTokenKeepsArguments(t *testing.T) {
	list := roomyTokens(t, `a + "b\"" c`)
	whole := wholeTokens(list)
	text := impl.Token{Kind: aText, Text: `"a\"b"`, Spaced: true, Hidden: []string{"a", "b", "a"}}
	valid := text
	valid.Hidden = text.Hidden[:2]
	for range 2 {
		wantText(t, `"a + \"b\\\"\" c"`, list...)
		wantText(t, `"a +"`, list[:2]...)
		wantNoText(t, append(slices.Clone(list), text)...)
		wantNoBytes(t, text)
		if got, ok := impl.TokenBytes(valid); !ok || got != `a"b` {
			t.Errorf("TokenBytes(%+v) = %q, %v", valid, got, ok)
		}
		if !reflect.DeepEqual(wholeTokens(list), whole) || !slices.Equal(text.Hidden, []string{"a", "b", "a"}) {
			t.Fatalf("the tokens are now %v, and %v", list, text)
		}
	}
}
