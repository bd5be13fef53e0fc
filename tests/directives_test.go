package tests

import (
	"math"
	"reflect"
	"regexp"
	"slices"
	"strings"
	"testing"

	"loop.example/macroprocessor/impl"
)

// kindWords are the names of the kinds of directives, from KindDefine on.
var kindWords = []string{"define", "undef", "if", "ifdef", "ifndef", "elif", "else", "endif", "include", "error"}

// sameDirectives compares directives, where no tokens are the same as nil.
func sameDirectives(a impl.Directive, b impl.Directive) bool {
	return a.Kind == b.Kind && sameTokens(a.Rest, b.Rest)
}

// wantDirective checks DirectiveOf of tokens, which are a directive, or do not begin with #.
func wantDirective(t *testing.T, list []impl.Token, want impl.Directive) {
	t.Helper()
	got, ok := impl.DirectiveOf(list)
	if !ok || !sameDirectives(got, want) {
		t.Errorf("DirectiveOf(%v) = %v, %v, want %v, true", list, got, ok, want)
		return
	}
	checkKind(t, list, got)
}

// checkKind checks what promise 69 says of the directive of tokens.
func checkKind(t *testing.T, list []impl.Token, got impl.Directive) {
	t.Helper()
	begins := len(list) > 0 && list[0].Text == "#"
	if begins != (got.Kind != impl.KindNone) || !begins && len(got.Rest) > 0 {
		t.Errorf("%v is the directive %v", list, got)
		return
	}
	if begins && (list[1].Kind != aName || list[1].Text != impl.KindText(got.Kind) || !sameTokens(got.Rest, list[2:])) {
		t.Errorf("%v is the directive %v, whose name is %q", list, got, impl.KindText(got.Kind))
	}
}

// wantNoDirective checks DirectiveOf of tokens that begin with #, but are no directive, or are not valid.
func wantNoDirective(t *testing.T, list []impl.Token) {
	t.Helper()
	if got, ok := impl.DirectiveOf(list); ok || !sameDirectives(got, impl.Directive{}) {
		t.Errorf("DirectiveOf(%v) = %v, %v, want nothing and false", list, got, ok)
	}
}

// wantRead checks ReadDirective of a line that can be read, where the tokens behind the name are those of a part of a line, and what promise 70 says of it.
func wantRead(t *testing.T, line string, kind int, rest string) {
	t.Helper()
	want := impl.Directive{Kind: kind, Rest: restOf(t, rest)}
	if got, ok := impl.ReadDirective(line); !ok || !sameDirectives(got, want) {
		t.Errorf("ReadDirective(%q) = %v, %v, want %v, true", line, got, ok, want)
		return
	}
	checkComments(t, line, want)
}

// restOf returns the tokens of the part of a line behind a word; the first one is Spaced if the part begins with a space.
func restOf(t *testing.T, part string) []impl.Token {
	t.Helper()
	return tokensOf(t, "x"+part)[1:]
}

// wantUnread checks ReadDirective of a line that cannot be read.
func wantUnread(t *testing.T, lines ...string) {
	t.Helper()
	for _, line := range lines {
		if got, ok := impl.ReadDirective(line); ok || !sameDirectives(got, impl.Directive{}) {
			t.Errorf("ReadDirective(%q) = %v, %v, want nothing and false", line, got, ok)
		}
	}
}

// checkComments checks that a line that is a directive is the same one with a comment behind it.
func checkComments(t *testing.T, line string, want impl.Directive) {
	t.Helper()
	for _, comment := range []string{"//", "// x", "// #else", "// /* x", `// "x`, "// @\\", "/**/", "/* x */", "/* #endif */ ", `/* "x */`, "/* @ // */", "/*/*/", "/* a *//* b */", "/**/ // x"} {
		// A / at the end would be the beginning of another comment.
		if strings.HasSuffix(line, "/") {
			comment = " " + comment
		}
		got, ok := impl.ReadDirective(line + comment)
		if len(line+comment) > impl.MaxLine {
			if ok || !sameDirectives(got, impl.Directive{}) {
				t.Errorf("ReadDirective(%q) = %v, %v, want nothing and false", line+comment, got, ok)
			}
		} else if !ok || !sameDirectives(got, want) {
			t.Errorf("ReadDirective(%q) = %v, %v, want %v, true", line+comment, got, ok, want)
		}
	}
}

// isDefineRest tells in another way whether tokens may be behind define.
func isDefineRest(list []impl.Token) bool {
	return definesMacro(printedLine(list))
}

// directiveParts are the directives but for define, where # is the mark, a small letter the first one of a kind that has the others in its group, n another name, t a text and . all else.
var directiveParts = regexp.MustCompile(`^(?:#u[diuelcrn]|#i.+|#[le]|#ct|#r.*)$`)

// lettersOf returns such letters for tokens: d for define, u for undef, ifdef and ifndef, i for if and elif, l for else, e for endif, c for include, r for error.
func lettersOf(list []impl.Token) string {
	letters := map[string]string{"#": "#", "define": "d", "undef": "u", "if": "i", "ifdef": "u", "ifndef": "u", "elif": "i", "else": "l", "endif": "e", "include": "c", "error": "r"}
	text := ""
	for _, token := range list {
		letter, found := letters[token.Text]
		switch {
		case found:
		case token.Kind == aName:
			letter = "n"
		case token.Kind == aText:
			letter = "t"
		default:
			letter = "."
		}
		text += letter
	}
	return text
}

// directiveAnotherWay returns the directive of tokens in another way.
func directiveAnotherWay(list []impl.Token) (impl.Directive, bool) {
	letters := lettersOf(list)
	if !strings.HasPrefix(letters, "#") {
		return impl.Directive{}, true
	}
	if !directiveParts.MatchString(letters) && !(strings.HasPrefix(letters, "#d") && isDefineRest(list[2:])) {
		return impl.Directive{}, false
	}
	return impl.Directive{Kind: slices.Index(kindWords, list[1].Text) + impl.KindDefine, Rest: list[2:]}, true
}

// checkDirective compares DirectiveOf with the other way, and returns the kind, or one more than the last one if the tokens are no directive.
func checkDirective(t *testing.T, list []impl.Token) int {
	t.Helper()
	want, wantOK := directiveAnotherWay(list)
	got, ok := impl.DirectiveOf(list)
	if ok != wantOK || !sameDirectives(got, want) {
		t.Fatalf("DirectiveOf(%v) = %v, %v, want %v, %v", list, got, ok, want, wantOK)
	}
	if !ok {
		return impl.KindError + 1
	}
	checkKind(t, list, got)
	return got.Kind
}

func TestConstantsOfDirectives(t *testing.T) {
	got := []int{impl.KindNone, impl.KindDefine, impl.KindUndef, impl.KindIf, impl.KindIfdef, impl.KindIfndef, impl.KindElif, impl.KindElse, impl.KindEndif, impl.KindInclude, impl.KindError}
	if !slices.Equal(got, []int{0, 1, 2, 3, 4, 5, 6, 7, 8, 9, 10}) {
		t.Errorf("the kinds of directives are %v", got)
	}
}

// Promise 68: every kind has its name, which is one token, and no two have the same.
func TestKindTextNames(t *testing.T) {
	for i, want := range kindWords {
		kind := impl.KindDefine + i
		if got := impl.KindText(kind); got != want {
			t.Errorf("KindText(%d) = %q, want %q", kind, got, want)
		}
		wantTokens(t, impl.KindText(kind), beside(aName, want))
		for other := impl.KindDefine; other <= impl.KindError; other++ {
			if (impl.KindText(kind) == impl.KindText(other)) != (kind == other) {
				t.Errorf("the kinds %d and %d have the names %q and %q", kind, other, impl.KindText(kind), impl.KindText(other))
			}
		}
	}
}

// Promise 68: other kinds have no name.
func TestKindTextOtherKinds(t *testing.T) {
	kinds := []int{impl.KindNone, math.MinInt, math.MaxInt, math.MinInt32, math.MaxInt32, 1 << 8, 1<<8 + 1, 1<<16 + 1, 1<<32 + 1, 1 - 1<<32}
	for kind := 1; kind < 300; kind++ {
		kinds = append(kinds, -kind, impl.KindError+kind)
	}
	for _, kind := range kinds {
		if got := impl.KindText(kind); got != "" {
			t.Errorf("KindText(%d) = %q, want nothing", kind, got)
		}
	}
}

// Promise 69: ordinary directives of all kinds.
func TestDirectiveOfOrdinary(t *testing.T) {
	for _, c := range []struct {
		kind int
		rest []string
	}{
		{impl.KindDefine, []string{"a", "a 1", "a b c", "f(x) x + x", "f() 1", "f(x,y) x ## y", "f(x) #x", "f (x) x", "a (1)", `a "b c"`, "define", "define define 1", "if 1", "f(define, if) define", "a # b", "a #define b"}},
		{impl.KindUndef, []string{"a", "_", "undef", "defined", "abcdefghijkl", "A1"}},
		{impl.KindIf, []string{"1", "a", "a == 1", "defined a", "defined(a) && !defined b", "f(x)", "+", "(", `"a"`, "#", "# if 1", "1 +", "if", "## 2", "1 / 0"}},
		{impl.KindIfdef, []string{"a", "_", "ifdef", "defined", "abcdefghijkl"}},
		{impl.KindIfndef, []string{"a", "_", "ifndef", "defined", "abcdefghijkl"}},
		{impl.KindElif, []string{"1", "a", "a == 1", "defined a", "+", ")", `"a"`, "#", "# elif", "else", "2 3 4"}},
		{impl.KindElse, []string{""}},
		{impl.KindEndif, []string{""}},
		{impl.KindInclude, []string{`"a"`, `""`, `"a.h"`, `"a/b"`, `" "`, `"\""`, `"\\"`, `"//"`, `"#"`, `"a name that is too long"`}},
		{impl.KindError, []string{"", "a", "x y", "1", `"a"`, "+", "#", "# error", "(", "not so: 1 + 1 == 3 ?", "error", "define"}},
	} {
		for _, rest := range c.rest {
			line := kindWords[c.kind-impl.KindDefine] + " " + rest
			want := impl.Directive{Kind: c.kind, Rest: restOf(t, " "+rest)}
			for _, before := range []string{"#", "# ", " #", "   #   "} {
				wantDirective(t, tokensOf(t, before+line), want)
				wantRead(t, before+line, c.kind, " "+rest)
			}
		}
	}
}

// Tokens may be directly behind the name, if they do not make another one of it.
func TestDirectiveOfNotSpaced(t *testing.T) {
	wantRead(t, "#if(a)", impl.KindIf, "(a)")
	wantRead(t, "#if!a", impl.KindIf, "!a")
	wantRead(t, "#elif(1)+2", impl.KindElif, "(1)+2")
	wantRead(t, `#include"a"`, impl.KindInclude, `"a"`)
	wantRead(t, "#error!", impl.KindError, "!")
	wantRead(t, "#error#error", impl.KindError, "#error")
	wantUnread(t, "#if1", "#ifa", "#error1", "#undefa", "#elif1", "#includea", "#definea 1", "#else1", "#endif_")
}

// Promise 69: tokens that do not begin with # are the zero value, whatever is behind them.
func TestDirectiveOfOtherTokens(t *testing.T) {
	for _, line := range []string{"", "   ", "a", "a b", "define a 1", "if 1", "else", "1 # if", "a #define b", "(#if 1)", `"#if" 1`, `"#define a 1"`, "+ #else", "f(#x)", ". #", "! # other", "define", "error x", "a #", "1 #", ") # 1", "= #if"} {
		wantDirective(t, tokensOf(t, line), impl.Directive{})
		wantRead(t, line, impl.KindNone, "")
	}
	// The mark ## is not #, also not before the name of a directive.
	for _, line := range []string{"##", "##define a 1", "## if 1", "##else", "###if 1", "####", "## # if", "##other", " ##endif"} {
		wantDirective(t, tokensOf(t, line), impl.Directive{})
		wantRead(t, line, impl.KindNone, "")
	}
	wantDirective(t, nil, impl.Directive{})
	wantDirective(t, []impl.Token{}, impl.Directive{})
	for _, token := range allSorts() {
		if token.Text == "#" {
			continue
		}
		for _, line := range []string{"", "#", "#define a 1", "#if 1", "# other", "#else x", "# 1"} {
			wantDirective(t, append([]impl.Token{token}, besides(t, line)...), impl.Directive{})
		}
	}
}

// # alone is no directive, and neither is # with anything else than the name of one behind it.
func TestDirectiveOfNoName(t *testing.T) {
	for _, line := range []string{"#", " #", "# ", "#1", "# 1", "# 1 define a", `#"if" 1`, `# "define" a 1`, `#"define a 1"`, "# #if 1", "# # define a", "# ## if 1", "#(if 1)", "#(define) a 1", "# (else)", "#+", "#, if 1", "#!if 1", "#1if 1", "#0else", "#; endif"} {
		wantNoDirective(t, tokensOf(t, line))
		wantUnread(t, line, " "+line, line+" // x", line+" /* x */")
	}
	for _, token := range allSorts() {
		for _, line := range []string{"", "define a 1", "if 1", "ifdef a", "else", "endif", "1", "a", `"a"`} {
			wantNoDirective(t, append([]impl.Token{beside(aMark, "#"), token}, tokensOf(t, line)...))
			wantNoDirective(t, append([]impl.Token{apart(aMark, "#"), apart(token.Kind, token.Text)}, tokensOf(t, line)...))
		}
	}
}

// A name behind # that is no directive, though others have it, or it has much in common with one.
func TestDirectiveOfOtherNames(t *testing.T) {
	names := []string{"other", "pragma", "line", "warning", "import", "defined", "elseif", "elsif", "elifdef", "elifndef", "ifelse", "end", "fi", "endelse", "includes", "include_next", "none", "a", "_", "x1", "Define", "deFine", "undefine", "undefined", "ifnot", "ifn", "ifd", "els", "endi", "err", "e", "i", "f"}
	for _, word := range kindWords {
		names = append(names, strings.ToUpper(word), strings.ToUpper(word[:1])+word[1:], word[:len(word)-1]+strings.ToUpper(word[len(word)-1:]), "_"+word, word+"_", word+"1", word+"s", "x"+word, word[1:], word[:len(word)-1], word[1:]+word[:1])
		for i := range word {
			names = append(names, word[:i]+"_"+word[i+1:], word[:i]+strings.ToUpper(word[i:i+1])+word[i+1:])
		}
	}
	for _, name := range names {
		if name == "" || slices.Contains(kindWords, name) {
			t.Fatalf("%q is a name of a kind", name)
		}
		for _, rest := range []string{"", " a", " a 1", " 1", ` "a"`, " f(x) x", " + ", "(a)", " else", " define a"} {
			line := "#" + name + rest
			wantNoDirective(t, tokensOf(t, line))
			wantUnread(t, line, "# "+name+rest, line+" // x", line+"/* x */", "/**/"+line)
		}
	}
	// Names longer than MaxName are no tokens, also if they begin with a name of a kind.
	wantUnread(t, "#include123456 1", "#abcdefghijklm", "#errorerrorerror")
}

// All short names of some bytes, of which only if is that of a kind, and two names that are one.
func TestDirectiveOfShortNames(t *testing.T) {
	for _, name := range append(linesOf("defilnu", 3)[1:], linesOf("_ifDEF", 4)[1:]...) {
		list := besides(t, "# "+name+" a")
		if name == "if" {
			wantDirective(t, list, impl.Directive{Kind: impl.KindIf, Rest: list[2:]})
		} else {
			wantNoDirective(t, list)
		}
	}
	for _, first := range kindWords {
		for _, second := range kindWords {
			if name := first + second; len(name) <= impl.MaxName {
				wantNoDirective(t, besides(t, "# "+name))
				wantNoDirective(t, besides(t, "# "+name+" a"))
			}
		}
	}
}

// Promise 69: every kind with everything that may be behind a name: too few tokens, too many, and others.
func TestDirectiveOfRests(t *testing.T) {
	macros := []string{"a", "_", "if", "a b", "a 1", "a a", "a +", "a # b", `a "a"`, "f(x)", "f()", "f(x) x", "f(x,y)", "f (x", "a define b", "a +##+"}
	for rest, kinds := range map[string]string{
		"": "else endif error", "defined": "undef if ifdef ifndef elif error",
		"1": "if elif error", "0x1": "if elif error", "+": "if elif error", "(": "if elif error", "#": "if elif error", "##": "if elif error", ",": "if elif error", "(a)": "if elif error", "1 a": "if elif error",
		`"a"`: "if elif include error", `""`: "if elif include error", `"a" "b"`: "if elif error", `"a" a`: "if elif error", `"a" +`: "if elif error", `"a",`: "if elif error", `("a")`: "if elif error", `< a >`: "if elif error", `<"a">`: "if elif error",
		"defined a": "if elif error", "defined(a)": "if elif error", "a(": "if elif error", "a(b": "if elif error", "a(1)": "if elif error", "a(b,)": "if elif error", "a(b b)": "if elif error", "a(b,b)": "if elif error", "f(a,b,c,d,e)": "if elif error",
		"a ##": "if elif error", "a ## b": "if elif error", "a b ##": "if elif error", "f(x) #": "if elif error", "f(x) #y": "if elif error", "f() #a": "if elif error", "f(x) x ## ## x": "if elif error", "# a": "if elif error", "#define a": "if elif error",
	} {
		checkRest(t, rest, strings.Fields(kinds))
	}
	for _, rest := range macros {
		kinds := []string{"define", "if", "elif", "error"}
		if !strings.ContainsAny(rest, " (") {
			kinds = append(kinds, "undef", "ifdef", "ifndef")
		}
		checkRest(t, rest, kinds)
	}
}

// checkRest checks which kinds may have what is behind a name.
func checkRest(t *testing.T, rest string, kinds []string) {
	t.Helper()
	for i, word := range kindWords {
		line := "#" + word + " " + rest
		if slices.Contains(kinds, word) {
			wantDirective(t, tokensOf(t, line), impl.Directive{Kind: impl.KindDefine + i, Rest: restOf(t, " "+rest)})
			wantRead(t, line, impl.KindDefine+i, " "+rest)
		} else {
			wantNoDirective(t, tokensOf(t, line))
			wantUnread(t, line, "  "+line, line+" ", line+" // a", line+"/* a */ ")
		}
	}
}

// Tokens that are no macro behind define, those that are too many among them.
func TestDirectiveOfDefineLimits(t *testing.T) {
	for count := range 40 {
		for _, head := range []string{"a", "f(x)", "f()", "f(x,y,z,w)", "f(x,y,z,w,v)"} {
			line := "#define " + head + strings.Repeat(" +", count)
			if list := tokensOf(t, line); count <= impl.MaxBody && head != "f(x,y,z,w,v)" {
				wantDirective(t, list, impl.Directive{Kind: impl.KindDefine, Rest: list[2:]})
			} else {
				wantNoDirective(t, list)
				wantUnread(t, line)
			}
		}
	}
	wantRead(t, "#define abcdefghijkl 1", impl.KindDefine, " abcdefghijkl 1")
	wantUnread(t, "#define abcdefghijklm 1", "#define defined", "#define defined 1", "#define defined(x) x", "#define defined a", "#define f(defined", "#define 1a 1", "#define f(x,x) x", "#define f(x", "#define f(x y) 1")
	wantRead(t, "#define f(defined) defined", impl.KindDefine, " f(defined) defined")
	wantRead(t, "#define a defined b", impl.KindDefine, " a defined b")
}

// The tokens behind the name stay, with Spaced and Hidden, and it does not matter how # and the name are Spaced and Hidden.
func TestDirectiveOfSpacedAndHidden(t *testing.T) {
	for _, line := range []string{"# define a 1 2", "# define f ( x ) x", "# undef a", "# if a", "# ifdef a", "# ifndef a", "# elif 1 + a", "# else", "# endif", `# include "a"`, "# error x y"} {
		kind := slices.Index(kindWords, strings.Fields(line)[1]) + impl.KindDefine
		for _, names := range append(allSubsets("a", "define", "if"), manyNames(impl.MaxTokens)) {
			for spaces := range 1 << 5 {
				list := besides(t, line)
				for i := range list {
					list[i].Spaced = spaces>>i%2 == 1
					if i != spaces%3 {
						list[i].Hidden = names
					}
				}
				wantDirective(t, list, impl.Directive{Kind: kind, Rest: list[2:]})
				wantDirective(t, list[1:], impl.Directive{})
				if kind == impl.KindElse || kind == impl.KindEndif {
					wantNoDirective(t, append(list, hiding(names...)))
				}
			}
		}
	}
	// Only Spaced tells that a macro without Function is defined here, whose body may begin with (1).
	for _, spaced := range []bool{false, true} {
		list := besides(t, "#define f(1) + ##")
		list[3].Spaced = spaced
		wantNoDirective(t, list)
		if list = list[:len(list)-1]; spaced {
			wantDirective(t, list, impl.Directive{Kind: impl.KindDefine, Rest: list[2:]})
		} else {
			wantNoDirective(t, list)
		}
	}
}

// Tokens that are not valid are no directive, wherever the wrong one stands, also where # is not the first one.
func TestDirectiveOfInvalidTokens(t *testing.T) {
	for _, line := range []string{"", "a", "a b", "#", "#define a 1", "#undef a", "#if 1", "#ifdef a", "#ifndef a", "#elif 1", "#else", "#endif", `#include "a"`, "#error", "#error x", "#other"} {
		list := besides(t, line)
		for _, wrong := range wrongTokens() {
			for i := range len(list) + 1 {
				wantNoDirective(t, slices.Insert(slices.Clone(list), i, wrong))
			}
			for i := range list {
				with := slices.Clone(list)
				with[i] = wrong
				wantNoDirective(t, with)
			}
		}
	}
	// A mark or a name of a kind that has another kind of token is no token.
	for _, kind := range []int{aName, aNumber, aText, 0, 5, -1} {
		wantNoDirective(t, []impl.Token{beside(kind, "#"), beside(aName, "else")})
		wantNoDirective(t, []impl.Token{beside(kind, "#")})
	}
	for _, kind := range []int{aNumber, aText, aMark, 0, 5, -1} {
		for _, word := range kindWords {
			wantNoDirective(t, []impl.Token{beside(aMark, "#"), beside(kind, word)})
			wantNoDirective(t, []impl.Token{beside(aMark, "#"), beside(kind, word), beside(aName, "a")})
		}
	}
	wantNoDirective(t, []impl.Token{beside(aMark, "#define")})
	wantNoDirective(t, []impl.Token{beside(aName, "#define"), beside(aName, "a")})
}

// A list of exactly MaxTokens tokens, and of more.
func TestDirectiveOfManyTokens(t *testing.T) {
	for _, token := range append(allSorts(), hiding(manyNames(impl.MaxTokens)...)) {
		for _, word := range []string{"if", "elif", "error"} {
			for _, count := range []int{1, impl.MaxTokens - 3, impl.MaxTokens - 2, impl.MaxTokens - 1, impl.MaxTokens, 2 * impl.MaxTokens} {
				list := append(besides(t, "#"+word), manyTokens(token, count)...)
				if len(list) <= impl.MaxTokens {
					wantDirective(t, list, impl.Directive{Kind: slices.Index(kindWords, word) + impl.KindDefine, Rest: list[2:]})
				} else {
					wantNoDirective(t, list)
				}
			}
		}
		if token.Text != "#" {
			wantDirective(t, manyTokens(token, impl.MaxTokens), impl.Directive{})
		}
		wantNoDirective(t, manyTokens(token, impl.MaxTokens+1))
		wantNoDirective(t, manyTokens(token, 2*impl.MaxTokens))
	}
	wantNoDirective(t, manyTokens(beside(aMark, "#"), impl.MaxTokens))
	wantRead(t, "#error"+strings.Repeat(" +", impl.MaxTokens-2), impl.KindError, strings.Repeat(" +", impl.MaxTokens-2))
	wantUnread(t, "#error"+strings.Repeat(" +", impl.MaxTokens-1), "#if"+strings.Repeat(" 1", impl.MaxTokens-1), strings.Repeat("+", impl.MaxTokens+1))
	// Tokens in comments are none.
	wantRead(t, "#error"+strings.Repeat(" +", impl.MaxTokens-2)+"// + +", impl.KindError, strings.Repeat(" +", impl.MaxTokens-2))
	wantRead(t, "/*"+strings.Repeat("+", impl.MaxTokens+1)+"*/", impl.KindNone, "")
}

// Promise 69: all short lists of some tokens.
func TestDirectiveOfShortLists(t *testing.T) {
	kinds := make([]int, impl.KindError+2)
	check := func(texts []string, number int) {
		var list []impl.Token
		for i, text := range texts {
			token := besides(t, text)[0]
			token.Spaced = number>>i%2 == 1
			list = append(list, token)
		}
		kinds[checkDirective(t, list)]++
	}
	pieces := append([]string{"#", "##", "a", "1", `"t"`, "("}, kindWords...)
	for number, texts := range listsOf(pieces, 4) {
		check(texts, number)
	}
	for number, texts := range listsOf([]string{"a", "x", "(", ")", ",", "#"}, 5) {
		check(append([]string{"#", "define"}, texts...), number)
		check(append([]string{"#", "define", "f", "(", "x"}, texts...), number<<4)
	}
	if slices.Min(kinds) < 1 || kinds[impl.KindDefine] < 1000 || kinds[impl.KindError+1] < 1000 {
		t.Errorf("the kinds are as often as %v", kinds)
	}
}

// Promise 70: comments are left out wherever they stand, and one is as a space.
func TestReadDirectiveComments(t *testing.T) {
	for _, line := range []string{"#define a 1", "/**/#define a 1", "#/**/define a 1", "# /* x */ define/* y */a/* z */1", "/* a *//* b */ # /* c */ define a /* d */ 1 // e", "#define a 1//", "#define a/* b */1", "#define/**/a/**/1", "#define /* // */ a 1", "#define a 1 /* b */ // /* c"} {
		got, ok := impl.ReadDirective(line)
		if !ok || !sameDirectives(got, impl.Directive{Kind: impl.KindDefine, Rest: restOf(t, " a 1")}) {
			t.Errorf("ReadDirective(%q) = %v, %v", line, got, ok)
		}
	}
	wantRead(t, "#else // x", impl.KindElse, "")
	wantRead(t, "#else/* x */", impl.KindElse, "")
	wantRead(t, "#endif /* #if 1 */", impl.KindEndif, "")
	wantRead(t, "#error // x", impl.KindError, "")
	wantRead(t, "#error a // @ ' $", impl.KindError, " a")
	wantRead(t, "#error/* @ */a", impl.KindError, " a")
	wantRead(t, `#include "a" // "b"`, impl.KindInclude, ` "a"`)
	wantRead(t, `#include /* "b" */ "a"`, impl.KindInclude, ` "a"`)
	wantRead(t, "#undef /* a */ b", impl.KindUndef, " b")
	wantRead(t, "#if a /* b */ + c // d", impl.KindIf, " a + c")
	wantRead(t, "#if/**/1", impl.KindIf, " 1")
	wantRead(t, "#if a / / b", impl.KindIf, " a / / b")
	wantRead(t, "#if a * / b /", impl.KindIf, " a * / b /")
	// A comment is a space before the parentheses of a macro, and divides names and marks.
	wantRead(t, "#define f/**/(x) x", impl.KindDefine, " f (x) x")
	wantRead(t, "#define f/**/(1) x", impl.KindDefine, " f (1) x")
	wantUnread(t, "#define f(/**/1) x", "#def/**/ine a", "#i/**/f 1", "#else/**/if", "#end/* */if", "#/**/#define a", "#undef a/**/b", "#ifdef a/**/1", `#include "a"/**/"b"`, "#define f(x) #/**/ ")
}

// Promise 70: a line that is nothing but comments is no directive, whatever is in these.
func TestReadDirectiveNothingElse(t *testing.T) {
	for _, line := range []string{"//", "// x", "//#if 1", "// #define a 1", "/**/", "/* x */", "/* #else */", "/*#*/", " // #", "  /* # */  ", "/* a *//* b */", "/* a */ // b", "/* # *///if 1", "//*", "// /* #if", "/*//*/", "/***/", `// "`, `/* " */`, "// @", "/* ' */"} {
		wantRead(t, line, impl.KindNone, "")
	}
	// What is left is no directive either.
	for _, line := range []string{"a // #if 1", "/* #if */ 1", "/* # */ if 1", "/*#*/else", "a/**/#else", `"#" // else`, "a b /* #endif */", "##/**/if 1", `"/*" # "*/"`} {
		wantRead(t, line, impl.KindNone, "")
	}
}

// What is in a comment is not there, and what is before or behind it is.
func TestReadDirectiveInComments(t *testing.T) {
	wantUnread(t, "#// if 1", "#/* if 1 */", "# /* define */ a 1", "#//else", "/**/#", "#/**/", "# //", "/* x */ # /* else */ // endif")
	wantUnread(t, "#if // 1", "#if /* 1 */", "#if//1", "#elif /**/", "#undef // a", "#undef /* a */", "#ifdef//", "#ifndef /* a */ // b", "#define // a", "#define /* a 1 */", `#include // "a"`, `#include /* "a" */`, "#define f(x // )", "#define f(/* x) */", "#define f(x) # // x", "#define a b ## // c")
	wantUnread(t, "#else x // y", "#else /* x */ y", "/* x */ #endif y", `#include "a" b // c`, "#undef a b // c", "#undef a /* b */ c")
}

// A text has no comments in it, and a comment no texts.
func TestReadDirectiveTexts(t *testing.T) {
	wantRead(t, `#if "//" // x`, impl.KindIf, ` "//"`)
	wantRead(t, `#include "/*"`, impl.KindInclude, ` "/*"`)
	wantRead(t, `#include "/* a */" // "b"`, impl.KindInclude, ` "/* a */"`)
	wantRead(t, `#include /* "*/ "a"`, impl.KindInclude, ` "a"`)
	wantRead(t, `#error "/* a" b "*/"`, impl.KindError, ` "/* a" b "*/"`)
	wantRead(t, `#error "a\"//" // b`, impl.KindError, ` "a\"//"`)
	wantRead(t, `#error "\\" // b "`, impl.KindError, ` "\\"`)
	wantRead(t, `#define a "//" /**/ + "/*"`, impl.KindDefine, ` a "//"   + "/*"`)
	wantUnread(t, `#include "a`, `#include "a\"`, `#error "`, `#error "a // b`, `#error "/* a */`, `#include a"`, `"`, `"a`, `a "b`, `#error "a" "`)
}

// There is no */ behind /*, also in lines that are no directive.
func TestReadDirectiveOpenComments(t *testing.T) {
	for _, line := range []string{"", "#", "a", "#define a 1", "#undef a", "#if 1", "#else", "#endif", `#include "a"`, "#error", "#other"} {
		for _, open := range []string{"/*", "/* a", "/*/", "/* *", "/* // ", "/* /*", `/* "*`} {
			wantUnread(t, line+" "+open, open+line, "  "+open+" "+line, "/* a */ "+line+open)
		}
	}
}

// Every byte behind a line, on its own and in a comment or a text.
func TestReadDirectiveBytes(t *testing.T) {
	for value := range 256 {
		b := string([]byte{byte(value)})
		_, divided := impl.TokensOf(b)
		for _, line := range []string{"#error ", "#if 1 ", "#elif a ", "#define a 1 ", "a ", ""} {
			if !impl.LineValid(b) {
				wantUnread(t, line+b, b+line, line+"//"+b, line+"// "+b+" x", line+"/*"+b+"*/", line+`"`+b+`"`)
				continue
			}
			// One token more is none too many behind all of these lines, but # alone is no directive.
			if got, ok := impl.ReadDirective(line + b); ok != (divided && line+b != "#") {
				t.Errorf("ReadDirective(%q) = %v, %v", line+b, got, ok)
			}
			want, _ := impl.ReadDirective(line)
			for _, comment := range []string{"//" + b, "/* " + b + " */"} {
				if got, ok := impl.ReadDirective(line + comment); !ok || !sameDirectives(got, want) {
					t.Errorf("ReadDirective(%q) = %v, %v, want %v, true", line+comment, got, ok, want)
				}
			}
		}
	}
	wantUnread(t, "#error it's", "#error a@b", "it's", "#if a ^ b", `#error \`, `#if 1 \`, "#define a $", "#else \n", "#if 1\n", "\t#if 1", "#error \u00e9", "#if abcdefghijklm", "#if 1234567890123", "abcdefghijklm", "#abcdefghijklm")
}

// A line of exactly MaxLine bytes is read, and a longer one is not, however few bytes would be left of it.
func TestReadDirectiveLength(t *testing.T) {
	for _, c := range []struct {
		line string
		kind int
		rest string
	}{{"#else", impl.KindElse, ""}, {"#if 1", impl.KindIf, " 1"}, {"#define a b", impl.KindDefine, " a b"}, {"#error", impl.KindError, ""}, {"", impl.KindNone, ""}, {"a", impl.KindNone, ""}} {
		for _, parts := range [][3]string{{"", " ", ""}, {"//", "x", ""}, {"//", "/", ""}, {"/*", "x", "*/"}, {"/*", "*", "*/"}, {" ", " ", "//"}} {
			fill := impl.MaxLine - len(c.line) - len(parts[0]) - len(parts[2])
			for more := -2; more <= 2; more++ {
				line := c.line + parts[0] + strings.Repeat(parts[1], fill+more) + parts[2]
				if more <= 0 {
					wantRead(t, line, c.kind, c.rest)
				} else {
					wantUnread(t, line)
				}
			}
		}
	}
	long := strings.Repeat("x", 190)
	wantRead(t, `#error  "`+long+`"`, impl.KindError, `  "`+long+`"`)
	wantUnread(t, `#error  "`+long+`x"`, `#error  "`+long+`" `)
}

var (
	commentParts = regexp.MustCompile(`"(?:\\.|[^"\\])*(?:"|\\$|$)|//.*|/\*.*?\*/|/\*`)
	someTokens   = regexp.MustCompile(`^( *)(?:([A-Za-z_][0-9A-Za-z_]*)|([0-9][0-9A-Za-z_]*)|("(?:\\.|[^"\\])*")|(##|[-+*/(),#]))`)
)

// readAnotherWay reads a line that is not too long, and has not too many tokens, in another way.
func readAnotherWay(line string) (impl.Directive, bool) {
	stripped, ok := strippedText(line, commentParts)
	if !ok {
		return impl.Directive{}, false
	}
	list, ok := dividedLine(stripped, someTokens)
	if !ok || slices.ContainsFunc(list, func(token impl.Token) bool { return token.Kind == aName && len(token.Text) > impl.MaxName }) {
		return impl.Directive{}, false
	}
	return directiveAnotherWay(list)
}

// checkRead compares ReadDirective with the other way, and returns the kind, or one more than the last one if the line cannot be read.
func checkRead(t *testing.T, line string) int {
	t.Helper()
	want, wantOK := readAnotherWay(line)
	got, ok := impl.ReadDirective(line)
	if ok != wantOK || !sameDirectives(got, want) {
		t.Fatalf("ReadDirective(%q) = %v, %v, want %v, %v", line, got, ok, want, wantOK)
	}
	if !ok {
		return impl.KindError + 1
	}
	return got.Kind
}

// Promises 69 and 70: all short lines of some pieces.
func TestReadDirectiveShortLines(t *testing.T) {
	kinds := make([]int, impl.KindError+2)
	for _, texts := range listsOf([]string{"#", "if", "else", " ", "/", "*", `"`}, 6) {
		line := strings.Join(texts, "")
		kind := checkRead(t, line)
		kinds[kind]++
		if got, ok := impl.ReadDirective(line); ok && kinds[kind]%5 == 1 {
			checkComments(t, line, got)
		}
	}
	for _, texts := range listsOf([]string{"undef", "endif", "a", " ", "/*", "*/", "//", `"`}, 4) {
		for _, before := range []string{"#", "# ", "/*", "#error ", "#include"} {
			kinds[checkRead(t, before+strings.Join(texts, ""))]++
		}
	}
	for _, kind := range []int{impl.KindNone, impl.KindUndef, impl.KindIf, impl.KindElse, impl.KindEndif, impl.KindInclude, impl.KindError, impl.KindError + 1} {
		if kinds[kind] < 5 {
			t.Errorf("the kinds are as often as %v", kinds)
		}
	}
}

// Promises 69 and 70: longer lines that are chosen in a fixed order.
func TestReadDirectiveAnotherWay(t *testing.T) {
	c := choices{seed: 8}
	words := append([]string{"a", "b", "x", " 1 ", `"t"`, `"//"`, `"/*"`, "(", ")", ",", "#", "##", "+", "/* c */", "/**/", "// d", "/*", "*/", "f(x) ", "f(a,b) a", "other", `"`}, kindWords...)
	kinds := make([]int, impl.KindError+2)
	for range 60000 {
		line := []string{"#", "# ", " #", "#/* c */", "", "/**/#", "/* c */ # "}[c.below(7)]
		if c.below(8) > 0 {
			line += kindWords[c.below(len(kindWords))] + []string{" ", "/**/", ""}[c.below(3)]
		}
		line += c.pieces(words, c.below(5))
		kind := checkRead(t, line)
		kinds[kind]++
		if got, ok := impl.ReadDirective(line); ok && c.below(4) == 0 {
			checkComments(t, line, got)
		}
	}
	if slices.Min(kinds) < 100 {
		t.Errorf("the kinds are as often as %v", kinds)
	}
}

// The general rules: tokens keep what they hold, a directive shares no memory with them, and no state is kept.
func TestDirectivesKeepArguments(t *testing.T) {
	for _, line := range []string{"#define f(x) x + 1", "#undef a", "#if 1 + a", "#ifdef a", "#ifndef b", "#elif a b c", "#else", "#endif", `#include "a"`, "#error a b", "#", "#other a", "a b c", "", "#else a"} {
		list := roomyTokens(t, line)
		whole := wholeTokens(list)
		first, ok := impl.DirectiveOf(list)
		want := impl.Directive{Kind: first.Kind, Rest: copiedArguments([][]impl.Token{first.Rest})[0]}
		changeWholeTokens(first.Rest)
		if !reflect.DeepEqual(wholeTokens(list), whole) {
			t.Fatalf("the tokens of %q are now %v", line, list)
		}
		wantRead(t, "#error x", impl.KindError, " x")
		second, again := impl.DirectiveOf(list)
		changeWholeTokens(list)
		if again != ok || !sameDirectives(second, want) {
			t.Fatalf("%q is the directive %v, %v, and was %v, %v before", line, second, again, want, ok)
		}
		read, _ := impl.ReadDirective(line)
		changeWholeTokens(read.Rest)
		want.Rest = bareTokens(want.Rest)
		if other, still := impl.ReadDirective(line); still != ok || !sameDirectives(other, want) {
			t.Fatalf("%q is read as %v, %v, want %v, %v", line, other, still, want, ok)
		}
	}
}

// The general rules: the tokens of a directive share no memory with each other, though given ones do.
func TestDirectivesShareNothing(t *testing.T) {
	names := append(make([]string, 0, 6), "p", "q")
	for _, line := range []string{"#define f(x) x + 1", "#if 1 + a == b", "#elif defined(a)", "#error x y z"} {
		list := tokensOf(t, line)
		for i := range list {
			list[i].Hidden = names
		}
		whole, ok := impl.DirectiveOf(list)
		if !ok || !sameTokens(whole.Rest, list[2:]) {
			t.Fatalf("DirectiveOf(%v) = %v, %v", list, whole, ok)
		}
		for i := range whole.Rest {
			got, _ := impl.DirectiveOf(list)
			changeWholeTokens(got.Rest[i : i+1 : i+1])
			got.Rest[i] = whole.Rest[i]
			if !sameDirectives(got, whole) {
				t.Fatalf("token %d shares memory with another one: %v", i, got)
			}
		}
	}
}
