package tests

import (
	"regexp"
	"strings"
	"testing"

	"loop.example/macroprocessor/impl"
)

// wantStripped checks StripComments of a line that can be stripped, and of the stripped line.
func wantStripped(t *testing.T, line string, want string) {
	t.Helper()
	if got, ok := impl.StripComments(line); !ok || got != want {
		t.Errorf("StripComments(%q) = %q, %v, want %q, true", line, got, ok, want)
	}
	if got, ok := impl.StripComments(want); !ok || got != want {
		t.Errorf("StripComments(%q) = %q, %v, want no change", want, got, ok)
	}
}

// wantUnstripped checks StripComments of a line that cannot be stripped.
func wantUnstripped(t *testing.T, line string) {
	t.Helper()
	if got, ok := impl.StripComments(line); ok || got != "" {
		t.Errorf("StripComments(%q) = %q, %v, want nothing and false", line, got, ok)
	}
}

// Promise 49: without a comment a line stays as it is, with its spaces.
func TestStripCommentsNone(t *testing.T) {
	lines := []string{"", " ", "  a  ", "a / b", "a / / b", "/", "*", "a/", "*/", "a */ b", "* /", "/ *", "a*b/c", "#define f(x) x + x", `\`, `a\`, `\\`, "'a'"}
	for _, line := range lines {
		wantStripped(t, line, line)
	}
}

// Promise 49: // and all behind it is left out, but nothing before it.
func TestStripCommentsToEnd(t *testing.T) {
	cases := [][2]string{
		{"//", ""},
		{"// b", ""},
		{"///", ""},
		{"////", ""},
		{"a//", "a"},
		{"a // b", "a "},
		{"  //b", "  "},
		{"a // b // c", "a "},
		{"/ // b", "/ "},
		{"a*//b", "a*"},
		{"a //* b", "a "},
		{"a //* b */ c", "a "},
		{`a // "b" c`, "a "},
		{`a // "b`, "a "},
		{`a // b \`, "a "},
		{`a \// b`, `a \`},
		{`a /\/ b`, `a /\/ b`},
	}
	for _, c := range cases {
		wantStripped(t, c[0], c[1])
	}
}

// Promise 49: /* up to the next */ becomes one space, whatever is in it and beside it.
func TestStripCommentsSpace(t *testing.T) {
	cases := [][2]string{
		{"/**/", " "},
		{"/***/", " "},
		{"/****/", " "},
		{"/* */", " "},
		{"a/* b */c", "a c"},
		{"a /* b */ c", "a   c"},
		{"/* a */b", " b"},
		{"a/* b */", "a "},
		{"/* // */ a", "  a"},
		{"/*//*/a", " a"},
		{"/* a /* b */ c", "  c"},
		{"/* a */ b */", "  b */"},
		{"/*/ a */b", " b"},
		{"/*/*/a", " a"},
		{"/*/*/a*/", " a*/"},
		{"/**/*/", " */"},
		{`/* \*/a`, " a"},
		{`/*\*/*/a`, " */a"},
	}
	for _, c := range cases {
		wantStripped(t, c[0], c[1])
	}
}

// Promise 49: every one of several comments is left out, and what remains makes no new one.
func TestStripCommentsSeveral(t *testing.T) {
	cases := [][2]string{
		{"/**//**/", "  "},
		{"/**//**//**/", "   "},
		{"a/*b*//*c*/d", "a  d"},
		{"a/*b*/c/*d*/e", "a c e"},
		{"/*a*/ /*b*/", "   "},
		{"/*a*///b", " "},
		{"a /*b*/ // c", "a   "},
		{"a /*b*/ // /* c", "a   "},
		{"//**/", ""},
		{"//**/a", ""},
		{"///**/a", ""},
		{"//*", ""},
		{"a/ /**/ /b", "a/   /b"},
		{"/ /**//a", "/  /a"},
		{"/ /**/*a", "/  *a"},
		{"*/**//", "* /"},
		{"/**/ /*/**/", "   "},
	}
	for _, c := range cases {
		wantStripped(t, c[0], c[1])
	}
	for _, line := range []string{"/**//*", "/**/ /*/", "a /*b*/ c /*d"} {
		wantUnstripped(t, line)
	}
}

// Promise 49: there is no comment in a text, and one directly beside it is one.
func TestStripCommentsTexts(t *testing.T) {
	cases := [][2]string{
		{`"//"`, `"//"`},
		{`"/* */"`, `"/* */"`},
		{`"/*"`, `"/*"`},
		{`"a // b" // c`, `"a // b" `},
		{`"//" /**/ x`, `"//"   x`},
		{`"a"//"b"`, `"a"`},
		{`"a"/*"*/"b"`, `"a" "b"`},
		{`"a"/*b*/"c"`, `"a" "c"`},
		{`""//`, `""`},
		{`"""//"`, `"""//"`},
		{`""""//`, `""""`},
		{`"/*" a "*/"`, `"/*" a "*/"`},
		{`"/*" /* "*/"`, `"/*"  "`},
		{`"/*"*/"`, `"/*"*/"`},
		{`"/"/"/"`, `"/"/"/"`},
		{`"/"//"/"`, `"/"`},
		{`/* " */ // "`, "  "},
		{`/*"*/"//"`, ` "//"`},
		{`a"b//c"d//e`, `a"b//c"d`},
	}
	for _, c := range cases {
		wantStripped(t, c[0], c[1])
	}
}

// Promise 49: a text that is open goes to the end of the line.
func TestStripCommentsOpenTexts(t *testing.T) {
	for _, line := range []string{`"`, `"a`, `"open // x`, `"open /* x`, `"open /* x */ y`, `"a" "b // c`, `"a\`, `"a\"`, `"a\" // b`, `"//\`, `"\`, `"\\\`} {
		wantStripped(t, line, line)
	}
	wantStripped(t, `/* a */"//`, ` "//`)
	wantStripped(t, `/* a */"/*`, ` "/*`)
}

// Promise 49: in a text a byte directly behind a backslash is skipped, as is the backslash.
func TestStripCommentsBackslashes(t *testing.T) {
	cases := [][2]string{
		{`"\"//"`, `"\"//"`},
		{`"a\"//"//`, `"a\"//"`},
		{`"\""//`, `"\""`},
		{`"\\"//`, `"\\"`},
		{`"\\" /* a */`, `"\\"  `},
		{`"\\\"//"`, `"\\\"//"`},
		{`"\\\\"//`, `"\\\\"`},
		{`"\a"//`, `"\a"`},
		{`"\//"//`, `"\//"`},
		{`"\/*"//`, `"\/*"`},
		{`"\" /* */ \""//`, `"\" /* */ \""`},
		// Outside of a text a backslash skips nothing.
		{`\"//"`, `\"//"`},
		{`\"a"//"`, `\"a"`},
		{`\\"//"//`, `\\"//"`},
		{`\//`, `\`},
		{`\/**/`, `\ `},
	}
	for _, c := range cases {
		wantStripped(t, c[0], c[1])
	}
}

// Promise 49: without */ behind /* there is no line, wherever /* stands outside of a text.
func TestStripCommentsOpen(t *testing.T) {
	lines := []string{"/*", "/*/", "a /*", "a /* b", "a /*/ b", "/* *", "/* * /", "/* /*", "*/ /*", "*/*", `"a" /* b`, `/* "a`, `/* "`, `"a"/*`, `\/*`, `/* \`, "/* //", "/* // b", `"\\"/*`}
	for _, line := range lines {
		wantUnstripped(t, line)
	}
}

// Promise 49: a line of MaxLine bytes is stripped, and one more is not, however few bytes would remain.
func TestStripCommentsLength(t *testing.T) {
	x := func(count int) string { return strings.Repeat("x", count) }
	wantStripped(t, x(200), x(200))
	wantUnstripped(t, x(201))
	wantStripped(t, "//"+x(198), "")
	wantUnstripped(t, "//"+x(199))
	wantStripped(t, x(198)+"//", x(198))
	wantUnstripped(t, x(199)+"//")
	wantStripped(t, "/*"+x(196)+"*/", " ")
	wantUnstripped(t, "/*"+x(197)+"*/")
	wantStripped(t, x(196)+"/**/", x(196)+" ")
	wantUnstripped(t, x(197)+"/**/")
	wantUnstripped(t, x(198)+"/*")
	wantStripped(t, `"`+x(199), `"`+x(199))
	wantStripped(t, `"`+x(197)+`\"`, `"`+x(197)+`\"`)
	wantStripped(t, x(199)+`"`, x(199)+`"`)
	wantStripped(t, x(199)+"/", x(199)+"/")
	wantUnstripped(t, `"`+x(200))
	wantStripped(t, strings.Repeat("/**/", 50), strings.Repeat(" ", 50))
	wantStripped(t, strings.Repeat("/", 200), "")
	wantUnstripped(t, strings.Repeat("/", 201))
}

// Promise 49: a line with a byte that no valid line has cannot be stripped, even where that byte would be left out.
func TestStripCommentsBytes(t *testing.T) {
	for value := range 256 {
		b := string([]byte{byte(value)})
		lines := []string{"a " + b, "// " + b, "//" + b + " ", "/* " + b + " */", "/*" + b, `"` + b + `"`, `"` + b, `"\` + b + `"`, b + " //", "\x1f" + b}
		for _, line := range lines {
			if !impl.LineValid(line) {
				wantUnstripped(t, line)
			}
		}
		if 32 <= value && value <= 126 {
			wantStripped(t, "//"+b, "")
			wantStripped(t, "/* "+b+" */", " ")
			wantStripped(t, "x"+b+"x", "x"+b+"x")
			wantStripped(t, `"\`+b+`//"//`, `"\`+b+`//"`)
		}
	}
	wantUnstripped(t, "\n")
	wantUnstripped(t, "a // \n")
	wantUnstripped(t, "\u00e9")
}

// strippedText is another way to strip: a text is matched whole, so that no comment is found in it.
func strippedText(line string, parts *regexp.Regexp) (string, bool) {
	ok := true
	stripped := parts.ReplaceAllStringFunc(line, func(part string) string {
		switch {
		case part[0] == '"':
			return part
		case part[1] == '/':
			return ""
		case part == "/*":
			ok = false
		}
		return " "
	})
	if !ok {
		return "", false
	}
	return stripped, true
}

// linesOf returns all lines of at most a number of bytes, each one of the given ones.
func linesOf(bytes string, most int) []string {
	lines := []string{""}
	longest := lines
	for range most {
		var next []string
		for _, line := range longest {
			for i := range len(bytes) {
				next = append(next, line+bytes[i:i+1])
			}
		}
		lines = append(lines, next...)
		longest = next
	}
	return lines
}

// Promise 49: for all short lines.
func TestStripCommentsShortLines(t *testing.T) {
	parts := regexp.MustCompile(`"(?:\\.|[^"\\])*(?:"|\\$|$)|//.*|/\*.*?\*/|/\*`)
	for _, line := range linesOf(`"\/*a`, 8) {
		want, wantOK := strippedText(line, parts)
		got, ok := impl.StripComments(line)
		if got != want || ok != wantOK {
			t.Fatalf("StripComments(%q) = %q, %v, want %q, %v", line, got, ok, want, wantOK)
		}
		if len(got) > len(line) {
			t.Fatalf("StripComments(%q) = %q is longer", line, got)
		}
		if again, againOK := impl.StripComments(got); ok && (!againOK || again != got) {
			t.Fatalf("StripComments(%q) = %q, %v, want no change", got, again, againOK)
		}
	}
}
