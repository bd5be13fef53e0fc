package tests

import (
	"reflect"
	"slices"
	"strings"
	"testing"

	"loop.example/macroprocessor/impl"
)

// wantPasted checks PasteTokens of two tokens that can be pasted, and that the token is valid.
func wantPasted(t *testing.T, a impl.Token, b impl.Token, want impl.Token) {
	t.Helper()
	got, ok := impl.PasteTokens(a, b)
	if !ok || !sameTokens([]impl.Token{got}, []impl.Token{want}) {
		t.Errorf("PasteTokens(%+v, %+v) = %+v, %v, want %+v, true", a, b, got, ok, want)
	}
	wantValid(t, got, true)
}

// wantNotPasted checks PasteTokens of two tokens that cannot be pasted.
func wantNotPasted(t *testing.T, a impl.Token, b impl.Token) {
	t.Helper()
	if got, ok := impl.PasteTokens(a, b); ok || !isNoToken(got) {
		t.Errorf("PasteTokens(%+v, %+v) = %+v, %v, want nothing and false", a, b, got, ok)
	}
}

// wantHidden checks HideName of tokens that can all hide the name, and what promise 63 says of them.
func wantHidden(t *testing.T, list []impl.Token, name string, want []impl.Token) {
	t.Helper()
	got := impl.HideName(list, name)
	if !sameTokens(got, want) {
		t.Errorf("HideName(%v, %q) = %v, want %v", list, name, got, want)
	}
	if !impl.TokensValid(got) || !sameKindsAndTexts(got, list) {
		t.Errorf("HideName(%v, %q) = %v, which are not valid or have other texts", list, name, got)
	}
	for _, token := range got {
		if !slices.Contains(token.Hidden, name) {
			t.Errorf("HideName(%v, %q) has %+v", list, name, token)
		}
	}
	if again := impl.HideName(got, name); !sameTokens(again, got) {
		t.Errorf("HideName(%v, %q) = %v, and hiding again leads to %v", list, name, got, again)
	}
}

// wantNotHidden checks HideName of tokens and a name for which it returns nothing.
func wantNotHidden(t *testing.T, list []impl.Token, name string) {
	t.Helper()
	if got := impl.HideName(list, name); len(got) != 0 {
		t.Errorf("HideName(%v, %q) = %v, want nothing", list, name, got)
	}
}

// pastedKind is another way to tell what two valid tokens are together: words make one word, and two bytes one mark. It is 0 if they cannot be pasted.
func pastedKind(a impl.Token, b impl.Token) int {
	isWord := func(token impl.Token) bool { return token.Kind == aName || token.Kind == aNumber }
	switch {
	case isWord(a) && isWord(b) && len(a.Text+b.Text) <= impl.MaxName:
		return a.Kind
	case slices.Contains(doubleMarks, a.Text+b.Text):
		return aMark
	}
	return 0
}

// withNames returns a token with Hidden names.
func withNames(token impl.Token, names ...string) impl.Token {
	token.Hidden = names
	return token
}

// allSubsets returns all lists of some of the names, in their order.
func allSubsets(names ...string) [][]string {
	lists := [][]string{nil}
	for _, name := range names {
		for _, list := range slices.Clone(lists) {
			lists = append(lists, append(slices.Clone(list), name))
		}
	}
	return lists
}

// Promise 62: words become one word, of the kind of the first one.
func TestPasteTokensOfWords(t *testing.T) {
	for _, c := range [][3]string{{"a", "b", "ab"}, {"x", "1", "x1"}, {"_", "_", "__"}, {"_", "0", "_0"}, {"a", "_", "a_"}, {"A1", "2b", "A12b"}, {"if", "def", "ifdef"}, {"de", "fined", "defined"}, {"a", "0x1f", "a0x1f"}} {
		kind := aName
		if c[1][0] >= '0' && c[1][0] <= '9' {
			kind = aNumber
		}
		wantPasted(t, beside(aName, c[0]), beside(kind, c[1]), beside(aName, c[2]))
	}
	for _, c := range [][2]string{{"1", "2"}, {"0", "0"}, {"12x", "3"}, {"9_", "9"}} {
		wantPasted(t, beside(aNumber, c[0]), beside(aNumber, c[1]), beside(aNumber, c[0]+c[1]))
	}
	for _, c := range [][2]string{{"1", "a"}, {"0", "x1f"}, {"1", "_"}, {"2", "defined"}} {
		wantPasted(t, beside(aNumber, c[0]), beside(aName, c[1]), beside(aNumber, c[0]+c[1]))
	}
}

// Promise 62: two marks become one of the marks of two bytes.
func TestPasteTokensOfMarks(t *testing.T) {
	pasted := 0
	for _, a := range singleMarks {
		for _, b := range singleMarks {
			if slices.Contains(doubleMarks, a+b) {
				wantPasted(t, beside(aMark, a), beside(aMark, b), beside(aMark, a+b))
				pasted++
				continue
			}
			wantNotPasted(t, beside(aMark, a), beside(aMark, b))
		}
	}
	if pasted != len(doubleMarks) {
		t.Errorf("%d pairs of marks are pasted", pasted)
	}
	for _, a := range doubleMarks {
		for _, b := range slices.Concat(singleMarks, doubleMarks) {
			wantNotPasted(t, beside(aMark, a), beside(aMark, b))
			wantNotPasted(t, beside(aMark, b), beside(aMark, a))
		}
	}
}

// Promise 62: what is two tokens or more, or none, is not pasted.
func TestPasteTokensOfTwoTokens(t *testing.T) {
	lines := []string{"a +", "+ a", "a (", "( )", ") a", "- 1", "+ +", "- -", "< <", "= !", "= <", "= >", "1 .", ". 5", ". .", "# a", "## a", "# ##", "## #", "== =", "= ==", "! ==", "< ==", "& &&", "! a", "? :"}
	lines = append(lines, `"a" "b"`, `"" ""`, `"a" b`, `a "b"`, `"a" 1`, `1 "a"`, `"a" +`, `+ "a"`, `"\"" "\""`, `"\\" "\\"`, `"a" ""`)
	for _, line := range lines {
		list := tokensOf(t, line)
		if len(list) != 2 {
			t.Fatalf("%q has %d tokens", line, len(list))
		}
		wantNotPasted(t, list[0], list[1])
	}
}

// Promise 62: what is a comment, or begins or ends one, is not pasted.
func TestPasteTokensOfComments(t *testing.T) {
	slash, star := beside(aMark, "/"), beside(aMark, "*")
	for _, token := range allSorts() {
		wantNotPasted(t, slash, token)
		wantNotPasted(t, token, slash)
		wantNotPasted(t, star, token)
		wantNotPasted(t, token, star)
	}
	for _, spaced := range []bool{false, true} {
		slash.Spaced, star.Spaced = spaced, spaced
		wantNotPasted(t, slash, slash)
		wantNotPasted(t, slash, star)
		wantNotPasted(t, star, slash)
		wantNotPasted(t, slash, withNames(slash, "a"))
	}
}

// Promise 62: all two tokens of all kinds, Spaced or not, with Hidden names.
func TestPasteTokensOfPairs(t *testing.T) {
	pasted := 0
	for _, a := range allSorts() {
		for _, b := range allSorts() {
			kind := pastedKind(a, b)
			for spaces := range 4 {
				a.Spaced, b.Spaced = spaces%2 == 1, spaces >= 2
				a.Hidden, b.Hidden = []string{"p", "q"}, []string{"q", "r"}
				if kind == 0 {
					wantNotPasted(t, a, b)
					continue
				}
				pasted++
				wantPasted(t, a, b, impl.Token{Kind: kind, Text: a.Text + b.Text, Spaced: a.Spaced, Hidden: []string{"q"}})
			}
		}
	}
	if pasted < 100 {
		t.Errorf("%d pairs are pasted", pasted)
	}
}

// Promise 62: a word has exactly MaxName bytes at most, so longer ones are not pasted.
func TestPasteTokensLength(t *testing.T) {
	names, numbers := "abcdefghijkl", "123456789012"
	for i := 1; i <= impl.MaxName; i++ {
		for k := 1; k <= impl.MaxName; k++ {
			for _, first := range []impl.Token{beside(aName, names[:i]), beside(aNumber, numbers[:i])} {
				for _, second := range []impl.Token{beside(aName, names[:k]), beside(aNumber, numbers[:k])} {
					if i+k > impl.MaxName {
						wantNotPasted(t, first, second)
						continue
					}
					wantPasted(t, first, second, beside(first.Kind, first.Text+second.Text))
				}
			}
		}
	}
	for _, token := range []impl.Token{beside(aName, "a"), beside(aMark, "("), beside(aText, `""`), textOf(impl.MaxLine)} {
		wantNotPasted(t, textOf(impl.MaxLine), token)
		wantNotPasted(t, token, textOf(impl.MaxLine))
	}
}

// Promise 62: the token is Spaced as the first one, whatever the second one is.
func TestPasteTokensSpaced(t *testing.T) {
	for _, texts := range [][2]impl.Token{{beside(aName, "a"), beside(aNumber, "1")}, {beside(aNumber, "1"), beside(aName, "a")}, {beside(aMark, "<"), beside(aMark, "=")}} {
		a, b := texts[0], texts[1]
		want := beside(a.Kind, a.Text+b.Text)
		for _, spaced := range []bool{false, true} {
			b.Spaced = spaced
			a.Spaced, want.Spaced = false, false
			wantPasted(t, a, b, want)
			a.Spaced, want.Spaced = true, true
			wantPasted(t, a, b, want)
		}
	}
}

// Promise 62: the names in Hidden are those that both have.
func TestPasteTokensHidden(t *testing.T) {
	a, b, ab := beside(aName, "a"), beside(aName, "b"), beside(aName, "ab")
	wantPasted(t, withNames(a, "p"), withNames(b), ab)
	wantPasted(t, withNames(a), withNames(b, "p"), ab)
	wantPasted(t, withNames(a, "p"), withNames(b, "q"), ab)
	wantPasted(t, withNames(a, "a", "b"), withNames(b, "a", "b"), withNames(ab, "a", "b"))
	wantPasted(t, withNames(a, "ab"), withNames(b, "a", "b"), ab)
	subsets := allSubsets("A", "_", "a", "a10", "a9", "b")
	for _, first := range subsets {
		for _, second := range subsets {
			var both []string
			for _, name := range first {
				if slices.Contains(second, name) {
					both = append(both, name)
				}
			}
			wantPasted(t, withNames(a, first...), withNames(b, second...), withNames(ab, both...))
			wantPasted(t, withNames(beside(aMark, "="), first...), withNames(beside(aMark, "="), second...), withNames(beside(aMark, "=="), both...))
		}
	}
}

// Promise 62: as many Hidden names as a token can have.
func TestPasteTokensHiddenMany(t *testing.T) {
	a, b, ab := beside(aName, "a"), beside(aName, "b"), beside(aName, "ab")
	most := manyNames(impl.MaxTokens)
	other := manyNames(2*impl.MaxTokens - 40)[impl.MaxTokens-40:]
	wantPasted(t, withNames(a, most...), withNames(b, most...), withNames(ab, most...))
	wantPasted(t, withNames(a, most...), withNames(b, other...), withNames(ab, most[20:]...))
	wantPasted(t, withNames(a, other...), withNames(b, most...), withNames(ab, most[20:]...))
	wantPasted(t, withNames(a, most...), withNames(b), ab)
	for i := range most {
		wantPasted(t, withNames(a, most...), withNames(b, most[i]), withNames(ab, most[i]))
		wantPasted(t, withNames(a, most[:i]...), withNames(b, most[i:]...), ab)
	}
	wantNotPasted(t, withNames(a, manyNames(impl.MaxTokens+1)...), b)
	wantNotPasted(t, a, withNames(b, manyNames(impl.MaxTokens+1)...))
}

// Promise 62: with a token that is not valid nothing is pasted.
func TestPasteTokensInvalid(t *testing.T) {
	for _, wrong := range wrongTokens() {
		for _, token := range append(allSorts(), wrong, apart(aName, "a"), hiding("a", "b")) {
			wantNotPasted(t, wrong, token)
			wantNotPasted(t, token, wrong)
		}
	}
}

// Promise 62: tokens that are not valid are not pasted, though their texts would be one token together.
func TestPasteTokensInvalidHalves(t *testing.T) {
	for _, token := range append(allSorts(), textOf(impl.MaxLine)) {
		for at := range len(token.Text) + 1 {
			for kind := range 6 {
				for other := range 6 {
					a, b := beside(kind, token.Text[:at]), beside(other, token.Text[at:])
					if !impl.TokenValid(a) || !impl.TokenValid(b) {
						wantNotPasted(t, a, b)
					}
				}
			}
		}
	}
	for _, texts := range [][2]string{{"a ", "b"}, {"a", " b"}, {"", "a"}, {"a", ""}, {" ", "a"}, {"a", "\u00e9"}} {
		wantNotPasted(t, beside(aName, texts[0]), beside(aName, texts[1]))
	}
}

// Promise 63: ordinary tokens of all kinds, with the name put in by its bytes.
func TestHideNameOfLines(t *testing.T) {
	for _, line := range []string{"", "a", "1", "+", `"a"`, "f(x) x + x", `  a "b" == 1`, "#define f(x) x##x"} {
		for _, name := range []string{"a", "f", "x", "_", "Zz9_", "abcdefghijkl", "defined"} {
			list := tokensOf(t, line)
			var want []impl.Token
			for _, token := range list {
				want = append(want, withNames(token, name))
			}
			wantHidden(t, list, name, want)
		}
	}
	for _, token := range allSorts() {
		token.Spaced = true
		wantHidden(t, []impl.Token{token, token}, "b", []impl.Token{withNames(token, "b"), withNames(token, "b")})
	}
}

// Promise 63: the name is put in its place, and is not put in where it is already.
func TestHideNamePlaces(t *testing.T) {
	names := []string{"A", "_", "a", "a10", "a9", "b"}
	for _, before := range allSubsets(names...) {
		for _, name := range append(names, "B", "__", "a1", "aa", "c", "defined") {
			after := slices.Clone(before)
			if !slices.Contains(before, name) {
				after = append(after, name)
				slices.Sort(after)
			}
			wantHidden(t, []impl.Token{hiding(before...)}, name, []impl.Token{hiding(after...)})
		}
	}
}

// Promise 63: each token keeps its own names, and all that is not Hidden.
func TestHideNameOfDifferentTokens(t *testing.T) {
	list := []impl.Token{hiding("b"), withNames(apart(aNumber, "1"), "a", "c"), apart(aMark, "+"), withNames(beside(aText, `"a"`), "c"), withNames(apart(aName, "b"), "a")}
	want := []impl.Token{hiding("b"), withNames(apart(aNumber, "1"), "a", "b", "c"), withNames(apart(aMark, "+"), "b"), withNames(beside(aText, `"a"`), "b", "c"), withNames(apart(aName, "b"), "a", "b")}
	for i := range list {
		for k := i; k <= len(list); k++ {
			wantHidden(t, list[i:k], "b", want[i:k])
		}
	}
}

// Promise 63: names may be hidden in every order.
func TestHideNameOrders(t *testing.T) {
	names := manyNames(7)
	for first := range names {
		for stride := 1; stride < len(names); stride++ {
			list := []impl.Token{apart(aName, "a"), beside(aMark, "(")}
			for i := range names {
				list = impl.HideName(list, names[(first+i*stride)%len(names)])
			}
			if !sameTokens(list, []impl.Token{withNames(apart(aName, "a"), names...), withNames(beside(aMark, "("), names...)}) {
				t.Errorf("from name %d on, by %d, the tokens are %v", first, stride, list)
			}
		}
	}
}

// Promise 63: a token that has MaxTokens names has room only for one of them.
func TestHideNameFull(t *testing.T) {
	names := manyNames(impl.MaxTokens + 1)
	for i, name := range names {
		others := slices.Delete(slices.Clone(names), i, i+1)
		full := hiding(others...)
		wantValid(t, full, true)
		for k, other := range others {
			wantHidden(t, []impl.Token{full}, other, []impl.Token{full})
			// With one name less there is room for one.
			roomy := hiding(slices.Delete(slices.Clone(others), k, k+1)...)
			wantHidden(t, []impl.Token{roomy}, other, []impl.Token{full})
		}
		for at := range 3 {
			list := []impl.Token{hiding(), hiding(name), hiding("a", "b")}
			wantNotHidden(t, slices.Insert(slices.Clone(list), at, full), name)
			list[at] = full
			wantNotHidden(t, list, name)
		}
		wantNotHidden(t, []impl.Token{full}, name)
	}
}

// Promise 63: exactly MaxTokens tokens at most.
func TestHideNameMany(t *testing.T) {
	for _, token := range []impl.Token{beside(aMark, "("), apart(aName, "a"), textOf(impl.MaxLine)} {
		for _, count := range []int{0, 1, impl.MaxTokens - 1, impl.MaxTokens} {
			wantHidden(t, manyTokens(token, count), "b", manyTokens(withNames(token, "b"), count))
		}
		wantNotHidden(t, manyTokens(token, impl.MaxTokens+1), "b")
		wantNotHidden(t, manyTokens(withNames(token, "b"), impl.MaxTokens+1), "b")
	}
	wantHidden(t, nil, "a", nil)
	wantHidden(t, []impl.Token{}, "a", nil)
}

// Promise 63: a text that is no name is not hidden.
func TestHideNameOfNoNames(t *testing.T) {
	texts := []string{"", " ", "1", "12x", "0", "m ", " m", "m n", "m.n", "m(", "+", "==", "##", `""`, `"m"`, "@", `\`, "m\n", "\x00", "m@", "\u00e9", "abcdefghijklm", strings.Repeat("m", 201), strings.Repeat("m", 1000)}
	for _, text := range texts {
		for _, list := range [][]impl.Token{nil, {hiding()}, {hiding("a", "n")}, {beside(aNumber, "1"), apart(aMark, "==")}, {withNames(beside(aText, `"m"`), manyNames(impl.MaxTokens)...)}} {
			wantTokensValid(t, list, true)
			wantNotHidden(t, list, text)
		}
	}
	for value := range 256 {
		b := byte(value)
		text := string([]byte{b})
		letter := b >= 'a' && b <= 'z' || b >= 'A' && b <= 'Z' || b == '_'
		if letter {
			wantHidden(t, []impl.Token{hiding()}, text, []impl.Token{hiding(text)})
			continue
		}
		wantNotHidden(t, []impl.Token{hiding()}, text)
	}
}

// Promise 63: with a token that is not valid, anywhere, nothing is hidden.
func TestHideNameInvalid(t *testing.T) {
	a, plus, b := hiding("a"), beside(aMark, "+"), apart(aName, "b")
	for _, wrong := range wrongTokens() {
		for _, name := range []string{"a", "b", "n01", "z"} {
			for _, list := range [][]impl.Token{{wrong}, {wrong, wrong}, {wrong, plus, b}, {a, wrong, b}, {a, plus, wrong}, {a, plus, b, wrong}} {
				wantNotHidden(t, list, name)
			}
		}
	}
	// The name would stand in its place, but the names are not valid before.
	wantNotHidden(t, []impl.Token{hiding("a", "c", "b")}, "b")
	wantNotHidden(t, []impl.Token{hiding("b", "b")}, "b")
	wantNotHidden(t, []impl.Token{hiding(manyNames(impl.MaxTokens + 1)...)}, "n01")
}

// The general rules: PasteTokens writes to no argument, shares no memory with them, and keeps no state.
func TestPasteTokensKeepsArguments(t *testing.T) {
	for _, names := range [][2][]string{{{"p", "q"}, {"q", "r"}}, {{"p", "q"}, {"p", "q"}}, {{"p"}, {"q"}}, {nil, nil}} {
		a := []impl.Token{withNames(apart(aName, "a"), append(make([]string, 0, 5), names[0]...)...)}
		b := []impl.Token{withNames(beside(aNumber, "1"), append(make([]string, 0, 5), names[1]...)...)}
		wantA, wantB := wholeTokens(a), wholeTokens(b)
		first, _ := impl.PasteTokens(a[0], b[0])
		want := copiedArguments([][]impl.Token{{first}})[0][0]
		changeWholeTokens([]impl.Token{first})
		if !reflect.DeepEqual(wholeTokens(a), wantA) || !reflect.DeepEqual(wholeTokens(b), wantB) {
			t.Fatalf("the tokens are now %v and %v", a, b)
		}
		second, _ := impl.PasteTokens(a[0], b[0])
		changeWholeTokens(a)
		changeWholeTokens(b)
		if !sameTokens([]impl.Token{second}, []impl.Token{want}) {
			t.Fatalf("the pasted token is %+v, and was %+v before", second, want)
		}
	}
}

// The general rules: HideName writes to no argument, shares no memory with them, and keeps no state.
func TestHideNameKeepsArguments(t *testing.T) {
	for _, name := range []string{"a", "n00", "n01", "z", "1"} {
		list := roomyTokens(t, `a + "b" c`)
		whole := wholeTokens(list)
		first := impl.HideName(list, name)
		want := copiedArguments([][]impl.Token{first})[0]
		changeWholeTokens(first)
		if !reflect.DeepEqual(wholeTokens(list), whole) {
			t.Fatalf("with the name %q the tokens are now %v", name, list)
		}
		second := impl.HideName(list, name)
		changeWholeTokens(list)
		if !sameTokens(second, want) {
			t.Fatalf("the tokens that hide %q are %v, and were %v before", name, second, want)
		}
	}
}

// The general rules: the tokens that HideName returns share no memory with each other, though the given ones do.
func TestHideNameSharesNothing(t *testing.T) {
	for _, name := range []string{"a", "b", "c"} {
		list := tokensOf(t, "f(a,1)")
		names := append(make([]string, 0, 4), "a", "b")
		for i := range list {
			list[i].Hidden = names
		}
		for i := range list {
			got := impl.HideName(list, name)
			want := copiedArguments([][]impl.Token{got})[0]
			changeWholeTokens(got[i : i+1 : i+1])
			got[i], want[i] = impl.Token{}, impl.Token{}
			if !sameTokens(got, want) {
				t.Fatalf("token %d shares memory with another one: %v", i, got)
			}
		}
	}
}
