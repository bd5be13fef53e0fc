package tests

import (
	"reflect"
	"slices"
	"strings"
	"testing"

	"loop.example/macroprocessor/impl"
)

// macroOf returns the macro that a line defines.
func macroOf(t *testing.T, line string) impl.Macro {
	t.Helper()
	m, ok := impl.MacroOf(tokensOf(t, line))
	if !ok {
		t.Fatalf("%q defines no macro", line)
	}
	return m
}

// macrosOf returns the macros that lines define, in the order of the lines.
func macrosOf(t *testing.T, lines ...string) []impl.Macro {
	t.Helper()
	var list []impl.Macro
	for _, line := range lines {
		list = append(list, macroOf(t, line))
	}
	return list
}

// manyMacros returns a number of macros whose names ascend.
func manyMacros(count int) []impl.Macro {
	var list []impl.Macro
	for _, name := range manyNames(count) {
		list = append(list, impl.Macro{Name: name, Body: []impl.Token{beside(aName, name)}})
	}
	return list
}

// sameTables compares macros one by one, where nil and empty slices are the same.
func sameTables(a []impl.Macro, b []impl.Macro) bool {
	return slices.EqualFunc(a, b, sameMacros)
}

// wantSameMacro checks SameMacro in both directions.
func wantSameMacro(t *testing.T, a impl.Macro, b impl.Macro, want bool) {
	t.Helper()
	if impl.SameMacro(a, b) != want || impl.SameMacro(b, a) != want {
		t.Errorf("SameMacro of %v and %v is not %v in both directions", a, b, want)
	}
}

// wantTableValid checks TableValid, and that no function takes a table that is not valid.
func wantTableValid(t *testing.T, list []impl.Macro, want bool) {
	t.Helper()
	if impl.TableValid(list) != want {
		t.Errorf("TableValid(%v) = %v, want %v", list, !want, want)
	}
	if want {
		return
	}
	names := []string{"", "a", "zzz", "defined"}
	macros := []impl.Macro{{}, {Name: "1"}, {Name: "a"}, {Name: "zzz"}}
	for _, m := range list {
		names = append(names, m.Name)
		macros = append(macros, m)
	}
	for _, name := range names {
		if impl.IsDefined(list, name) {
			t.Errorf("IsDefined(%v, %q) is true", list, name)
		}
		if got := impl.Undefine(list, name); len(got) != 0 {
			t.Errorf("Undefine(%v, %q) = %v, want nothing", list, name, got)
		}
	}
	for _, m := range macros {
		wantDefined(t, list, m, nil, false)
	}
}

// wantDefined checks Define.
func wantDefined(t *testing.T, list []impl.Macro, m impl.Macro, want []impl.Macro, wantOK bool) {
	t.Helper()
	if got, ok := impl.Define(list, m); ok != wantOK || !sameTables(got, want) {
		t.Errorf("Define(%v, %v) = %v, %v, want %v, %v", list, m, got, ok, want, wantOK)
	}
}

// wantUndefined checks Undefine.
func wantUndefined(t *testing.T, list []impl.Macro, name string, want []impl.Macro) {
	t.Helper()
	if got := impl.Undefine(list, name); !sameTables(got, want) {
		t.Errorf("Undefine(%v, %q) = %v, want %v", list, name, got, want)
	}
}

// definedTable is another way to put a macro whose name is not there yet into a valid table: it is put behind all, and they are sorted.
func definedTable(list []impl.Macro, m impl.Macro) []impl.Macro {
	table := append(slices.Clone(list), m)
	slices.SortFunc(table, func(a, b impl.Macro) int { return strings.Compare(a.Name, b.Name) })
	return table
}

// checkNewMacro checks what promise 5 says of a valid macro whose name is not in a valid table that has room.
func checkNewMacro(t *testing.T, list []impl.Macro, m impl.Macro) []impl.Macro {
	t.Helper()
	want := definedTable(list, m)
	table, ok := impl.Define(list, m)
	if !ok || !sameTables(table, want) {
		t.Fatalf("Define(%v, %v) = %v, %v, want %v, true", list, m, table, ok, want)
	}
	wantTableValid(t, table, true)
	if impl.IsDefined(list, m.Name) || !impl.IsDefined(table, m.Name) {
		t.Fatalf("%q is in the table %v before, or not in %v", m.Name, list, table)
	}
	for _, other := range list {
		if !impl.IsDefined(table, other.Name) {
			t.Fatalf("%q is not in the table %v any more", other.Name, table)
		}
	}
	wantDefined(t, table, m, table, true)
	checkUndefined(t, table, m.Name, list)
	return table
}

// checkUndefined checks what promises 57 and 58 say of a valid table and a name.
func checkUndefined(t *testing.T, list []impl.Macro, name string, want []impl.Macro) {
	t.Helper()
	table := impl.Undefine(list, name)
	if !sameTables(table, want) || !impl.TableValid(table) || impl.IsDefined(table, name) {
		t.Fatalf("Undefine(%v, %q) = %v, want %v", list, name, table, want)
	}
	wantUndefined(t, table, name, table)
	for _, m := range list {
		if impl.IsDefined(table, m.Name) != (m.Name != name) {
			t.Fatalf("IsDefined(%v, %q) is %v without %q", table, m.Name, m.Name == name, name)
		}
	}
}

func TestConstantOfTables(t *testing.T) {
	if impl.MaxMacros != 10 {
		t.Errorf("MaxMacros is %v", impl.MaxMacros)
	}
}

// Promise 5: ordinary macros, in their places by names.
func TestDefineOfLines(t *testing.T) {
	var table []impl.Macro
	for _, line := range []string{"m 1", "b", "z(x,y) x + #y", "a (x)", "n() 1", "Z", "_ a ## b", "aa", `M "a b"`} {
		table = checkNewMacro(t, table, macroOf(t, line))
	}
	want := macrosOf(t, `M "a b"`, "Z", "_ a ## b", "a (x)", "aa", "b", "m 1", "n() 1", "z(x,y) x + #y")
	if !sameTables(table, want) {
		t.Errorf("the table is %v, want %v", table, want)
	}
	wantDefined(t, nil, macroOf(t, "a 1"), macrosOf(t, "a 1"), true)
	wantDefined(t, []impl.Macro{}, macroOf(t, "f(x) x"), macrosOf(t, "f(x) x"), true)
	wantDefined(t, macrosOf(t, "b 2"), macroOf(t, "a 1"), macrosOf(t, "a 1", "b 2"), true)
	wantDefined(t, macrosOf(t, "b 2"), macroOf(t, "c 1"), macrosOf(t, "b 2", "c 1"), true)
	wantDefined(t, macrosOf(t, "a 1", "c 3"), macroOf(t, "b 2"), macrosOf(t, "a 1", "b 2", "c 3"), true)
}

// Promise 5: names are compared by their bytes, and a prefix is before a longer name, at every place of the table.
func TestDefineOrder(t *testing.T) {
	names := []string{"A", "A0", "AA", "A_", "Aa", "Z", "_", "a", "a1", "abcdefghijkl"}
	for left := range names {
		others := slices.Delete(slices.Clone(names), left, left+1)
		for count := range len(others) + 1 {
			var list []impl.Macro
			for _, name := range others[:count] {
				list = append(list, impl.Macro{Name: name})
			}
			checkNewMacro(t, list, impl.Macro{Name: names[left]})
		}
	}
}

// Promise 5: the table is the same, whatever the order in which macros are defined.
func TestDefineAllOrders(t *testing.T) {
	macros := macrosOf(t, "A 1", "_ 2", "a(x) #x", "ab 3", "b")
	var define func(table []impl.Macro, left []impl.Macro)
	define = func(table []impl.Macro, left []impl.Macro) {
		if len(left) == 0 && !sameTables(table, macros) {
			t.Errorf("the table is %v, want %v", table, macros)
		}
		for i, m := range left {
			define(checkNewMacro(t, table, m), slices.Delete(slices.Clone(left), i, i+1))
		}
	}
	define(nil, macros)
}

// differentMacros returns lines that define different macros with the same name.
func differentMacros() []string {
	return []string{
		"a", "a 1", "a 01", "a 2", "a x", "a X", `a "x"`, "a x y", "a xy", "a y x", "a x x", "a x+y", "a x + y", "a x +y", "a x+ y", "a #", "a # x", "a #x",
		"a (", "a ()", "a (x)", "a (x) x", "a( ) ", "a() ()", "a() x", "a(x)", "a(x) x", "a(x) y", "a(y) x", "a(y) y", "a(x) 1", "a(y) 1", "a(x) #x", "a(x) # x", "a(x) x##x", "a(x) x ## x",
		"a(x,y)", "a(y,x)", "a(x,y) x", "a(y,x) x", "a(x,y,z)", "a(x,y,z) x", "a a", "a(a)", "a(a) a",
	}
}

// Promises 5 and 55: a macro that is defined twice is accepted exactly if both are equal, and the first one stays.
func TestDefineTwice(t *testing.T) {
	lines := differentMacros()
	for i, line := range lines {
		first := macroOf(t, line)
		for j, other := range lines {
			second := macroOf(t, other)
			wantSameMacro(t, first, second, i == j)
			for _, table := range [][]impl.Macro{{first}, {macroOf(t, "A"), first}, {first, macroOf(t, "b")}, {macroOf(t, "A"), macroOf(t, "_"), first, macroOf(t, "b")}} {
				wantDefined(t, table, second, table, i == j)
			}
		}
	}
}

// Promises 5 and 55: how many spaces there are in a line, and where none matter, makes no other macro.
func TestDefineTwiceSpaces(t *testing.T) {
	same := [][]string{
		{"a", " a", "a ", "  a  "},
		{"a x y", "a  x  y", " a x   y "},
		{"a x + y", "a   x  +  y"},
		{"a +x", "a+x", "a   +x"},
		{"a(x,y) x + y", "a( x , y )x + y", " a(x ,y)  x  +  y"},
		{"a()", "a( )", "a(  ) "},
		{`a "x  y"`, `a"x  y"`},
	}
	for _, lines := range same {
		for _, line := range lines {
			for _, other := range lines {
				wantSameMacro(t, macroOf(t, line), macroOf(t, other), true)
				wantDefined(t, macrosOf(t, line), macroOf(t, other), macrosOf(t, line), true)
			}
		}
	}
	wantSameMacro(t, macroOf(t, `a "x y"`), macroOf(t, `a "x  y"`), false)
	wantSameMacro(t, macroOf(t, "a x+y"), macroOf(t, "a x + y"), false)
}

// Promise 5: a table with MaxMacros macros takes no other one, wherever it would be, but an equal one.
func TestDefineFullTable(t *testing.T) {
	full := manyMacros(impl.MaxMacros)
	wantTableValid(t, full, true)
	for _, name := range []string{"A", "n", "n0", "n000", "n05_", "n1", "n10", "z"} {
		wantDefined(t, full, impl.Macro{Name: name}, full, false)
		checkNewMacro(t, full[1:], impl.Macro{Name: name})
		checkNewMacro(t, full[:impl.MaxMacros-1], impl.Macro{Name: name})
	}
	for i, m := range full {
		wantDefined(t, full, m, full, true)
		wantDefined(t, full, impl.Macro{Name: m.Name}, full, false)
		wantDefined(t, full, impl.Macro{Name: m.Name, Function: true, Body: m.Body}, full, false)
		less := slices.Delete(slices.Clone(full), i, i+1)
		checkNewMacro(t, less, m)
		checkUndefined(t, full, m.Name, less)
	}
}

// wrongMacros returns macros that are not valid.
func wrongMacros() []impl.Macro {
	list := []impl.Macro{
		{}, {Name: "1"}, {Name: "defined"}, {Name: "a "}, {Name: "+"}, {Name: "abcdefghijklm"}, {Name: "a\n"},
		{Name: "a", Params: []string{"x"}},
		{Name: "a", Function: true, Params: []string{"x", "x"}},
		{Name: "a", Function: true, Params: []string{"1"}},
		{Name: "a", Function: true, Params: []string{"v", "w", "x", "y", "z"}},
		{Name: "a", Function: true, Body: []impl.Token{beside(aMark, "#"), beside(aName, "x")}},
		{Name: "a", Body: []impl.Token{apart(aName, "x")}},
		{Name: "a", Body: []impl.Token{beside(aMark, "##")}},
		{Name: "a", Body: []impl.Token{beside(aNumber, "x")}},
		{Name: "a", Body: []impl.Token{hiding("b")}},
		{Name: "a", Body: manyTokens(beside(aName, "x"), impl.MaxBody+1)},
	}
	for _, wrong := range wrongTokens() {
		list = append(list, impl.Macro{Name: "a", Body: []impl.Token{wrong}})
	}
	return list
}

// Promise 5: a macro that is not valid leaves every valid table as it is, and is refused.
func TestDefineWrongMacro(t *testing.T) {
	for _, wrong := range wrongMacros() {
		for _, table := range [][]impl.Macro{nil, {}, macrosOf(t, "a"), macrosOf(t, "a x"), macrosOf(t, "A", "b(x) x"), manyMacros(impl.MaxMacros)} {
			wantDefined(t, table, wrong, table, false)
		}
	}
	twin := impl.Macro{Name: "a", Body: []impl.Token{hiding("b")}}
	wantSameMacro(t, twin, macroOf(t, "a a"), true)
	wantDefined(t, macrosOf(t, "a a"), twin, macrosOf(t, "a a"), false)
}

// Promise 56: with a macro that is not valid, wherever it stands, a table is not valid.
func TestTableValidWrongMacro(t *testing.T) {
	for _, wrong := range wrongMacros() {
		wantTableValid(t, []impl.Macro{wrong}, false)
		for _, list := range [][]impl.Macro{macrosOf(t, "A"), macrosOf(t, "b 1"), macrosOf(t, "A", "b"), macrosOf(t, "A", "B", "c", "d"), manyMacros(impl.MaxMacros - 1)} {
			wantTableValid(t, list, true)
			for i := range len(list) + 1 {
				wantTableValid(t, slices.Insert(slices.Clone(list), i, wrong), false)
			}
			wantTableValid(t, definedTable(list, wrong), false)
		}
	}
}

// Promise 56: names ascend, by their bytes.
func TestTableValidOrder(t *testing.T) {
	for _, names := range []string{"", "a", "A a", "a b", "a aa", "a1 a_", "Z _ a", "_ __", "A B C", "a10 a9", "abcdefghijk abcdefghijkl", "A B C D E F G H I J"} {
		var list []impl.Macro
		for _, name := range strings.Fields(names) {
			list = append(list, impl.Macro{Name: name, Function: len(list)%2 == 1})
		}
		wantTableValid(t, list, true)
		for i := range list {
			wantTableValid(t, list[i:], true)
			wantTableValid(t, list[:i], true)
			wantTableValid(t, slices.Delete(slices.Clone(list), i, i+1), true)
			wantTableValid(t, slices.Insert(slices.Clone(list), i, list[i]), false)
			wantTableValid(t, slices.Insert(slices.Clone(list), i, impl.Macro{Name: list[i].Name, Body: besides(t, "other")}), false)
			for j := range i {
				swapped := slices.Clone(list)
				swapped[i], swapped[j] = swapped[j], swapped[i]
				wantTableValid(t, swapped, false)
			}
		}
	}
	for _, names := range []string{"b a", "a a", "a b a", "a c b", "b a c", "aa a", "a B", "a _", "_ Z", "a9 a10", "a b c d e f g h j i"} {
		var list []impl.Macro
		for _, name := range strings.Fields(names) {
			list = append(list, impl.Macro{Name: name})
		}
		wantTableValid(t, list, false)
	}
}

// Promise 56: a table has exactly MaxMacros macros at most.
func TestTableValidMany(t *testing.T) {
	for count := range impl.MaxMacros + 1 {
		wantTableValid(t, manyMacros(count), true)
	}
	for _, count := range []int{impl.MaxMacros + 1, impl.MaxMacros + 2, 40} {
		list := manyMacros(count)
		wantTableValid(t, list, false)
		wantTableValid(t, list[count-impl.MaxMacros:], true)
	}
	wantTableValid(t, make([]impl.Macro, 1000), false)
}

// Promise 57: names are defined exactly if they are in the table, whole and byte by byte.
func TestIsDefined(t *testing.T) {
	table := macrosOf(t, "A 1", "_b(x) x", "abc d", "abcdefghijkl", "f(p) q")
	defined := []string{"A", "_b", "abc", "abcdefghijkl", "f"}
	for _, name := range defined {
		if !impl.IsDefined(table, name) || impl.IsDefined(nil, name) || impl.IsDefined([]impl.Macro{}, name) {
			t.Errorf("IsDefined of %q is false in %v, or true in no table", name, table)
		}
	}
	others := []string{"", " ", "a", "ab", "abcd", "b", "_", "_B", "ABC", "F", "x", "d", "p", "q", "1", "z", "0", "~", "A ", " A", "A\n", "A\x00", "f(p)", "f(", "defined", "abcdefghijk", "abcdefghijklm", strings.Repeat("a", 1000), "\u00e9", "\xff"}
	for _, name := range others {
		if impl.IsDefined(table, name) {
			t.Errorf("IsDefined(%v, %q) is true", table, name)
		}
		checkUndefined(t, table, name, table)
	}
}

// Promises 57 and 58: of a table one macro is taken away, whichever it is, and all others stay.
func TestUndefine(t *testing.T) {
	table := macrosOf(t, "A 1", "_b(x) x", "abc d", "abcdefghijkl", "f(p,q) #p ## q + 1")
	for count := range len(table) + 1 {
		part := table[:count]
		for i, m := range part {
			want := slices.Delete(slices.Clone(part), i, i+1)
			checkUndefined(t, part, m.Name, want)
			checkNewMacro(t, want, m)
		}
		checkUndefined(t, part, "zz", part)
	}
	for _, name := range []string{"", "a", "defined", "1", strings.Repeat("a", 1000)} {
		checkUndefined(t, nil, name, nil)
		checkUndefined(t, []impl.Macro{}, name, nil)
	}
	checkUndefined(t, macrosOf(t, "a"), "a", nil)
}

// Promise 55: macros differ by each of their parts, and Hidden names are not compared.
func TestSameMacroParts(t *testing.T) {
	m := macroOf(t, "f(x,y) x + #y")
	changes := map[string]func(m *impl.Macro){
		"name":        func(m *impl.Macro) { m.Name = "g" },
		"longer name": func(m *impl.Macro) { m.Name = "ff" },
		"no name":     func(m *impl.Macro) { m.Name = "" },
		"Function":    func(m *impl.Macro) { m.Function = false },
		"parameter":   func(m *impl.Macro) { m.Params[1] = "z" },
		"fewer":       func(m *impl.Macro) { m.Params = m.Params[:1] },
		"none":        func(m *impl.Macro) { m.Params = nil },
		"more":        func(m *impl.Macro) { m.Params = append(m.Params, "z") },
		"order":       func(m *impl.Macro) { m.Params[0], m.Params[1] = m.Params[1], m.Params[0] },
		"kind":        func(m *impl.Macro) { m.Body[0].Kind = aNumber },
		"text":        func(m *impl.Macro) { m.Body[1].Text = "-" },
		"spaced":      func(m *impl.Macro) { m.Body[1].Spaced = false },
		"first":       func(m *impl.Macro) { m.Body[0].Spaced = true },
		"last":        func(m *impl.Macro) { m.Body[3].Spaced = true },
		"shorter":     func(m *impl.Macro) { m.Body = m.Body[:3] },
		"longer":      func(m *impl.Macro) { m.Body = append(m.Body, beside(aName, "x")) },
		"no body":     func(m *impl.Macro) { m.Body = nil },
	}
	wantSameMacro(t, m, m, true)
	for name, change := range changes {
		other := macroOf(t, "f(x,y) x + #y")
		wantSameMacro(t, m, other, true)
		change(&other)
		if impl.SameMacro(m, other) || impl.SameMacro(other, m) {
			t.Errorf("SameMacro is true with another %s: %v", name, other)
		}
		wantSameMacro(t, other, other, true)
	}
	hidden := macroOf(t, "f(x,y) x + #y")
	hidden.Body[2].Hidden = []string{"a"}
	wantSameMacro(t, m, hidden, true)
}

// Promise 55: nil and empty slices are the same, and macros that are not valid are compared alike.
func TestSameMacroOthers(t *testing.T) {
	wantSameMacro(t, impl.Macro{}, impl.Macro{}, true)
	wantSameMacro(t, impl.Macro{Name: "a"}, impl.Macro{Name: "a", Params: []string{}, Body: []impl.Token{}}, true)
	wantSameMacro(t, impl.Macro{Name: "a"}, impl.Macro{Name: "a", Function: true}, false)
	wrong := wrongMacros()
	for i, a := range wrong {
		wantSameMacro(t, a, a, true)
		named := a
		named.Name += "x"
		wantSameMacro(t, a, named, false)
		for j, b := range wrong {
			wantSameMacro(t, a, b, i == j || sameMacros(withoutHidden(a), withoutHidden(b)))
		}
	}
}

// withoutHidden returns a macro whose body has no Hidden names.
func withoutHidden(m impl.Macro) impl.Macro {
	m.Body = plainBody(m.Body)
	return m
}

// Promises 5, 57 and 58: whatever is defined and taken away, the table has what a map of texts has.
func TestTablesOfManySteps(t *testing.T) {
	names := []string{"B", "_", "a", "ab", "b", "c", "d1", "d2", "e", "f", "g", "h"}
	texts := map[string]string{}
	var table []impl.Macro
	seed := 1
	for range 5000 {
		seed = seed * 16807 % 2147483647
		name := names[seed/7%len(names)]
		text, there := texts[name]
		if seed%3 == 0 {
			delete(texts, name)
			table = impl.Undefine(table, name)
		} else {
			line := name + []string{" 1", " 2", "(x) x"}[seed/1000%3]
			room := there && text == line || !there && len(texts) < impl.MaxMacros
			if room {
				texts[name] = line
			}
			got, ok := impl.Define(table, macroOf(t, line))
			if ok != room {
				t.Fatalf("Define(%v, %q) = %v, %v", table, line, got, ok)
			}
			table = got
		}
		var want []string
		for _, name := range names {
			if impl.IsDefined(table, name) != (texts[name] != "") {
				t.Fatalf("IsDefined(%v, %q) is %v", table, name, texts[name] == "")
			}
			if texts[name] != "" {
				want = append(want, texts[name])
			}
		}
		if !impl.TableValid(table) || !sameTables(table, macrosOf(t, want...)) {
			t.Fatalf("the table is %v, want %v", table, want)
		}
	}
}

// roomyMacro returns a macro all of whose slices have more memory than they show.
func roomyMacro(t *testing.T, line string) impl.Macro {
	t.Helper()
	m := macroOf(t, line)
	m.Params = append(make([]string, 0, 8), m.Params...)
	m.Body = append(make([]impl.Token, 0, 30), m.Body...)
	for i := range m.Body {
		m.Body[i].Hidden = make([]string, 0, 3)
	}
	return m
}

// roomyTable returns a table of such macros, with more memory than it shows itself.
func roomyTable(t *testing.T, lines ...string) []impl.Macro {
	t.Helper()
	table := make([]impl.Macro, 0, 20)
	for _, line := range lines {
		table = append(table, roomyMacro(t, line))
	}
	return table
}

// wholeTable returns all that is in the memory of a table, also behind the end of its slices.
func wholeTable(list []impl.Macro) []impl.Macro {
	whole := slices.Clone(list[:cap(list)])
	for i, m := range whole {
		whole[i].Params = slices.Clone(m.Params[:cap(m.Params)])
		whole[i].Body = slices.Clone(m.Body[:cap(m.Body)])
		for j, token := range whole[i].Body {
			whole[i].Body[j].Hidden = slices.Clone(token.Hidden[:cap(token.Hidden)])
		}
	}
	return whole
}

// copiedTable returns a table in new memory.
func copiedTable(list []impl.Macro) []impl.Macro {
	table := slices.Clone(list)
	for i, m := range table {
		table[i].Params = slices.Clone(m.Params)
		table[i].Body = plainBody(m.Body)
	}
	return table
}

// plainBody returns the tokens of a body in new memory, without Hidden names.
func plainBody(list []impl.Token) []impl.Token {
	body := slices.Clone(list)
	for i := range body {
		body[i].Hidden = nil
	}
	return body
}

// changeWholeMacro writes to all memory of a macro, that of its Hidden names too.
func changeWholeMacro(m impl.Macro) {
	for _, token := range m.Body[:cap(m.Body)] {
		hidden := token.Hidden[:cap(token.Hidden)]
		for i := range hidden {
			hidden[i] = "changed"
		}
	}
	changeMacro(m)
}

// changeTable writes to all memory of a table, also to that behind its end.
func changeTable(list []impl.Macro) {
	whole := list[:cap(list)]
	for i := range whole {
		changeWholeMacro(whole[i])
		whole[i] = impl.Macro{Name: "changed"}
	}
}

// tableCalls returns the functions whose result is a table, with arguments for all of their ways.
func tableCalls(t *testing.T) []func(list []impl.Macro, m impl.Macro) []impl.Macro {
	t.Helper()
	define := func(line string) func(list []impl.Macro, m impl.Macro) []impl.Macro {
		other := roomyMacro(t, line)
		return func(list []impl.Macro, m impl.Macro) []impl.Macro {
			table, _ := impl.Define(list, other)
			return table
		}
	}
	undefine := func(name string) func(list []impl.Macro, m impl.Macro) []impl.Macro {
		return func(list []impl.Macro, m impl.Macro) []impl.Macro {
			return impl.Undefine(list, name)
		}
	}
	given := func(list []impl.Macro, m impl.Macro) []impl.Macro {
		table, _ := impl.Define(list, m)
		return table
	}
	wrong := func(list []impl.Macro, m impl.Macro) []impl.Macro {
		m.Name = "1"
		table, _ := impl.Define(list, m)
		return table
	}
	return []func(list []impl.Macro, m impl.Macro) []impl.Macro{given, wrong, define("b(x,y) x + y"), define("b 2"), define("zz"), undefine("a"), undefine("b"), undefine("d"), undefine("zz")}
}

// The general rules: the arguments of a call keep what they hold, and a table shares no memory with them.
func TestTablesKeepArguments(t *testing.T) {
	for _, lines := range [][]string{{"a", "b(x,y) x + y", "d 1 2"}, {"a 1"}, {"d(p) #p"}, {"b() 1"}, {}, {"a", "b", "c1", "c2", "c3", "c4", "c5", "c6", "d", "e"}} {
		for i, call := range tableCalls(t) {
			list := roomyTable(t, lines...)
			m := roomyMacro(t, "c(x,y) #x + y")
			wantList, wantM := wholeTable(list), wholeTable([]impl.Macro{m})
			first := call(list, m)
			want := copiedTable(first)
			if !reflect.DeepEqual(wholeTable(list), wantList) || !reflect.DeepEqual(wholeTable([]impl.Macro{m}), wantM) {
				t.Fatalf("call %d of %v wrote to its arguments", i, lines)
			}
			changeTable(first)
			if !reflect.DeepEqual(wholeTable(list), wantList) || !reflect.DeepEqual(wholeTable([]impl.Macro{m}), wantM) {
				t.Fatalf("call %d of %v shares memory with its arguments", i, lines)
			}
			second := call(list, m)
			changeTable(list)
			changeWholeMacro(m)
			if !sameTables(second, want) {
				t.Fatalf("call %d of %v returned %v, and %v before", i, lines, second, want)
			}
		}
	}
}

// The general rules: the macros of a table share no memory with each other, though those of the argument do.
func TestTablesShareNothing(t *testing.T) {
	params := []string{"x", "y"}
	body := append(make([]impl.Token, 0, 30), besides(t, "x + y")...)
	named := func(name string) impl.Macro {
		return impl.Macro{Name: name, Function: true, Params: params, Body: body}
	}
	list := []impl.Macro{named("a"), named("b"), named("d")}
	for i, call := range tableCalls(t) {
		count := len(call(list, named("c")))
		for j := range count {
			table := call(list, named("c"))
			want := wholeTable(table)
			changeWholeMacro(table[j])
			table[j], want[j] = impl.Macro{}, impl.Macro{}
			if !reflect.DeepEqual(wholeTable(table), want) {
				t.Fatalf("macro %d of the table of call %d shares memory with another one", j, i)
			}
		}
	}
}

// The general rules: questions write to no argument.
func TestTableQuestionsKeepArguments(t *testing.T) {
	for _, lines := range [][]string{{"a", "b(x,y) x + y", "d 1 2"}, {"d", "a"}, {}} {
		list := roomyTable(t, lines...)
		want := wholeTable(list)
		for _, name := range []string{"a", "b", "zz", ""} {
			impl.IsDefined(list, name)
			impl.TableValid(list)
			for _, m := range list {
				impl.SameMacro(m, list[0])
			}
		}
		if !reflect.DeepEqual(wholeTable(list), want) {
			t.Errorf("the table is now %v", list)
		}
	}
}
