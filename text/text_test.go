package text

import (
	"fmt"
	"math"
	"reflect"
	"regexp"
	"slices"
	"strconv"
	"strings"
	"testing"

	"lychway/api"
	"lychway/expr"
	"lychway/lex"
	"lychway/sheet"
)

// ref, number, quote and truth are formulas of one node, and node has Args.
func ref(name string) api.Expr            { return api.Expr{Op: api.Ref, Name: name} }
func number(n int) api.Expr               { return constant(api.Value{Kind: api.Int, N: n}) }
func quote(s string) api.Expr             { return constant(api.Value{Kind: api.Text, S: s}) }
func truth(n int) api.Expr                { return constant(api.Value{Kind: api.Bool, N: n}) }
func constant(v api.Value) api.Expr       { return api.Expr{Op: api.Const, V: v} }
func node(op int, l ...api.Expr) api.Expr { return api.Expr{Op: op, Args: l} }

// input, formula and lookup are fields of each kind.
func input(name string, own int) api.Field {
	return api.Field{Name: name, Kind: api.Input, Type: own}
}
func formula(name string, own int, x api.Expr) api.Field {
	return api.Field{Name: name, Kind: api.Formula, Type: own, Source: x}
}
func lookup(name string, own int, x api.Expr) api.Field {
	return api.Field{Name: name, Kind: api.Lookup, Type: own, Source: x}
}

// pageOf is a page that is never skipped, and skipped one that can be.
func pageOf(name string, fields ...string) api.Page { return api.Page{Name: name, Fields: fields} }
func skipped(name string, skip api.Expr, fields ...string) api.Page {
	return api.Page{Name: name, Fields: fields, Skip: skip}
}

// fields of a form, and a form of them with pages.
type fields []api.Field

func (l fields) with(pages ...api.Page) api.Form { return api.Form{Fields: l, Pages: pages} }

// text of lines.
func text(lines ...string) string { return strings.Join(lines, "\n") }

// same: are two formulas the same, be their empty lists nil or not?
func same(x, y api.Expr) bool {
	return x.Op == y.Op && x.V == y.V && x.Name == y.Name && slices.EqualFunc(x.Args, y.Args, same)
}

// sameForm: are two forms the same?
func sameForm(a, b api.Form) bool {
	return slices.EqualFunc(a.Fields, b.Fields, func(f, g api.Field) bool {
		return f.Name == g.Name && f.Kind == g.Kind && f.Type == g.Type && same(f.Source, g.Source)
	}) && slices.EqualFunc(a.Pages, b.Pages, func(p, q api.Page) bool {
		return p.Name == q.Name && slices.Equal(p.Fields, q.Fields) && same(p.Skip, q.Skip)
	})
}

// short is a text that is not too long to be shown.
func short(s string) string {
	if len(s) > 2000 {
		return strconv.Quote(s[:2000]) + fmt.Sprintf(" and %d bytes more", len(s)-2000)
	}
	return strconv.Quote(s)
}

// testPrint tests the text of a form, or what is wrong with it.
func testPrint(t *testing.T, f api.Form, want string, err api.Errno) {
	t.Helper()
	if s, e := Print(f); s != want || e != err {
		t.Errorf("Print = %s, %d, want %s, %d", short(s), e, short(want), err)
	}
}

// testRead tests the form of a text, or what is wrong with it in which line.
func testRead(t *testing.T, s string, want api.Form, line int, err api.Errno) {
	t.Helper()
	f, n, e := Read(s)
	if !sameForm(f, want) || n != line || e != err {
		t.Errorf("Read(%s) = %v, %d, %d, want %v, %d, %d", short(s), f, n, e, want, line, err)
	}
}

// refuse tests that a text is wrong in a line.
func refuse(t *testing.T, s string, line int, err api.Errno) {
	t.Helper()
	testRead(t, s, api.Form{}, line, err)
}

// testBoth tests that a form has a text, and the text this form.
func testBoth(t *testing.T, s string, f api.Form) {
	t.Helper()
	testPrint(t, f, s, api.OK)
	testRead(t, s, f, 0, api.OK)
}

// kindsAndTypes is a text with each kind of a field and each type, and the form
// that it describes.
func kindsAndTypes() (string, api.Form) {
	return text(
			"input ai int", "input ab bool", "input at text", "formula bi int = ai", "formula bb bool = true", `formula bt text = "x"`,
			"lookup ci int = at", "lookup cb bool = 12", "lookup ct text = false", "page p: ai",
		), fields{
			input("ai", api.Int), input("ab", api.Bool), input("at", api.Text),
			formula("bi", api.Int, ref("ai")), formula("bb", api.Bool, truth(1)), formula("bt", api.Text, quote("x")),
			lookup("ci", api.Int, ref("at")), lookup("cb", api.Bool, number(12)), lookup("ct", api.Text, truth(0)),
		}.with(pageOf("p", "ai"))
}

// largest is a text of as many fields and pages as there can be, with the form
// that it describes.
func largest() (string, api.Form) {
	var lines []string
	var f api.Form
	for i := range api.MaxFields {
		name := "a" + strconv.Itoa(i)
		lines = append(lines, "lookup "+name+" text = -1")
		f.Fields = append(f.Fields, lookup(name, api.Text, node(api.Neg, number(1))))
	}
	for i := range api.MaxPages {
		name, on := "p"+strconv.Itoa(i), []string{"a" + strconv.Itoa(13-i), "a" + strconv.Itoa(i)}
		lines = append(lines, "page "+name+": "+on[0]+", "+on[1]+"; true")
		f.Pages = append(f.Pages, skipped(name, truth(1), on...))
	}
	return text(lines...), f
}

// TestExample of the chapter (P13.1, P13.2).
func TestExample(t *testing.T) {
	testBoth(t, "input a int\nformula b bool = a < 3\npage p: a, b; a = 0", fields{
		input("a", api.Int), formula("b", api.Bool, node(api.Less, ref("a"), number(3))),
	}.with(skipped("p", node(api.Same, ref("a"), number(0)), "a", "b")))
}

// TestBoth: the texts of forms, and their forms (P13.1, P13.2).
func TestBoth(t *testing.T) {
	a := input("a", api.Int)
	s, f := kindsAndTypes()
	testBoth(t, s, f)
	s, f = largest()
	testBoth(t, s, f)
	testBoth(t, "page p: ", fields{}.with(pageOf("p")))
	testBoth(t, "page p: ; false", fields{}.with(skipped("p", truth(0))))
	testBoth(t, "input a int\npage p: ", fields{a}.with(pageOf("p")))
	testBoth(t, "input a int\npage p: a", fields{a}.with(pageOf("p", "a")))
	testBoth(t, text("input c text", "input a int", "input b bool", "page q: b", "page r: ", "page p: a, c; not b"), fields{
		input("c", api.Text), a, input("b", api.Bool), // neither fields nor names are sorted
	}.with(pageOf("q", "b"), pageOf("r"), skipped("p", node(api.Not, ref("b")), "a", "c")))
	testBoth(t, text("formula c int = b", "lookup b int = -(a - (1 - a)) * 2", "input a int", "page p: c, b, a"), fields{
		formula("c", api.Int, ref("b")),
		lookup("b", api.Int, node(api.Mul, node(api.Neg, node(api.Sub, ref("a"), node(api.Sub, number(1), ref("a")))), number(2))), a,
	}.with(pageOf("p", "c", "b", "a")))
}

// TestBothWords: words of lines as names, and names of all lengths (P13.1,
// P13.2).
func TestBothWords(t *testing.T) {
	for _, name := range []string{
		"page", "input", "formula", "lookup", "int", "bool", "text", "form", "p", "a0", "z9", "aaaaaaaaaa", "a123456789", "nota", "iff", "lens", "pending",
	} {
		testBoth(t, text("input "+name+" bool", "page "+name+": "+name+"; "+name), fields{
			input(name, api.Bool),
		}.with(skipped(name, ref(name), name)))
		testBoth(t, text("lookup a int = "+name, "formula "+name+" int = 1", "page p: a, "+name), fields{
			lookup("a", api.Int, ref(name)), formula(name, api.Int, number(1)),
		}.with(pageOf("p", "a", name)))
	}
}

// TestBothSigns: what divides lines may be in a formula, too (P13.1, P13.2).
func TestBothSigns(t *testing.T) {
	for _, s := range []string{
		" = ", ": ", "; ", ", ", "a; b", "x: a, b; c = d", " = = ", "page p: a", "input a int", `"`, `\`, `\n`, `" = "`, "~ ", "", " ",
	} {
		quoted := `"` + strings.NewReplacer(`"`, `\"`, `\`, `\\`).Replace(s) + `"`
		testBoth(t, text("formula a text = "+quoted, "page p: a; a = "+quoted, "page q: ; "+quoted+" = a"), fields{
			formula("a", api.Text, quote(s)),
		}.with(skipped("p", node(api.Same, ref("a"), quote(s)), "a"), skipped("q", node(api.Same, quote(s), ref("a")))))
	}
	equal := node(api.Same, node(api.Same, ref("a"), truth(1)), ref("a"))
	testBoth(t, text("input a bool", "formula b bool = (a = true) = a", "page p: b; (a = true) = a"), fields{
		input("a", api.Bool), formula("b", api.Bool, equal),
	}.with(skipped("p", equal, "b")))
}

// balanced is a sum of 2^n names, with parentheses where they are needed.
func balanced(n int, name string) api.Expr {
	if n == 0 {
		return ref(name)
	}
	return node(api.Add, balanced(n-1, name), balanced(n-1, name))
}

// TestLong: a formula may have a notation that is too long to be read (P13.1,
// P13.2).
func TestLong(t *testing.T) {
	name := "a234567890"
	sum := name + " + " + name
	sum = sum + " + (" + sum + ")"
	sum = sum + " + (" + sum + ")"
	sum = sum + " + (" + sum + ")"
	f := fields{formula("b", api.Int, balanced(4, name)), input(name, api.Int)}.with(pageOf("p"))
	s := text("formula b int = "+sum, "input "+name+" int", "page p: ")
	testPrint(t, f, s, api.OK)
	refuse(t, s, 1, api.ErrSize)
	f.Fields[0].Source = ref(name)
	f.Pages[0].Skip = node(api.Less, balanced(4, name), number(1))
	s = text("formula b int = "+name, "input "+name+" int", "page p: ; "+sum+" < 1")
	testPrint(t, f, s, api.OK)
	refuse(t, s, 3, api.ErrSize)
	quoted := strings.Repeat("x", api.MaxText)
	long := `len("` + quoted + `")`
	for range 2 {
		long += ` + len("` + quoted + `")`
	}
	x := node(api.Len, quote(quoted))
	x = node(api.Add, node(api.Add, x, x), x)
	long += " + 1000000000"
	x = node(api.Add, x, number(1000000000))
	if len(long) != api.MaxSource {
		t.Fatalf("%s has %d bytes", long, len(long))
	}
	f = fields{formula("a", api.Int, x)}.with(pageOf("p", "a"))
	testBoth(t, text("formula a int = "+long, "page p: a"), f)
	for _, space := range []string{" ", "  ", strings.Repeat(" ", 1<<12)} {
		refuse(t, text("formula a int = "+space+long, "page p: a"), 1, api.ErrSize)
		refuse(t, text("formula a int = 1", "page p: a; "+long+space), 2, api.ErrSize)
	}
}

// tall is a formula with n Nots above a name.
func tall(n int, name string) api.Expr {
	x := ref(name)
	for range n {
		x = node(api.Not, x)
	}
	return x
}

// numbered has n Inputs, whose names differ.
func numbered(n int) fields {
	var l fields
	for i := range n {
		l = append(l, input("a"+strconv.Itoa(i), api.Int))
	}
	return l
}

// wrongForms are forms that are not valid, with what is wrong with them.
func wrongForms() map[api.Errno][]api.Form {
	a, b, p := input("a", api.Int), input("b", api.Bool), pageOf("p")
	return map[api.Errno][]api.Form{
		api.ErrSize: {
			{}, fields{a}.with(), numbered(15).with(p), numbered(1 << 17).with(p), fields{input("aaaaaaaaaaa", api.Int)}.with(p), fields{}.with(make([]api.Page, 7)...),
			fields{input("", api.Int)}.with(p), fields{a}.with(pageOf("")), fields{formula("c", api.Bool, tall(60, "b")), b}.with(p),
		},
		api.ErrKind: {
			fields{input("a", 0)}.with(p), fields{input("a", api.Pending)}.with(p), fields{input("a", api.Fault)}.with(p), fields{input("a", -1)}.with(p),
			fields{{Name: "a", Type: api.Int}}.with(p), fields{{Name: "a", Kind: 4, Type: api.Int}}.with(p), fields{{Name: "a", Kind: math.MinInt, Type: api.Int}}.with(p),
			fields{formula("a", api.Int, api.Expr{})}.with(p), fields{lookup("a", api.Int, api.Expr{})}.with(p), fields{a}.with(skipped("p", api.Expr{Op: 19})),
			fields{a}.with(skipped("p", api.Expr{Name: "a"})), fields{formula("a", math.MaxInt, number(1))}.with(p),
		},
		api.ErrForm: {
			fields{input("A", api.Int)}.with(p), fields{input("if", api.Int)}.with(p), fields{a}.with(pageOf("a b")), fields{{Name: "a", Kind: api.Input, Type: api.Int, Source: number(0)}}.with(p),
			fields{formula("a", api.Int, ref("A"))}.with(p), fields{a}.with(skipped("p", number(-1))), fields{a, formula("c", api.Text, quote("\n"))}.with(p),
		},
		api.ErrRange: {fields{b, formula("c", api.Bool, tall(12, "b"))}.with(p), fields{b}.with(skipped("p", tall(12, "b")))},
		api.ErrNone:  {fields{formula("c", api.Int, ref("b"))}.with(p), fields{a}.with(pageOf("p", "b")), fields{a}.with(skipped("p", ref("b")))},
		api.ErrTwice: {fields{a, a}.with(p), fields{a}.with(p, p), fields{a}.with(pageOf("p", "a", "a")), fields{a}.with(pageOf("p", "a"), pageOf("q", "a"))},
		api.ErrType:  {fields{a, formula("c", api.Bool, ref("a"))}.with(p), fields{a, lookup("c", api.Int, node(api.Not, ref("a")))}.with(p), fields{a}.with(skipped("p", ref("a")))},
		api.ErrCycle: {
			fields{formula("a", api.Int, ref("a"))}.with(p), fields{lookup("a", api.Int, ref("c")), formula("c", api.Int, ref("a")), b}.with(p),
			fields{formula("a", api.Int, ref("a"))}.with(), fields{lookup("a", api.Text, ref("a"))}.with(pageOf("if")), // what is wrong with pages comes later
		},
	}
}

// TestPrintErrors: forms that are not valid have no text (P13.1).
func TestPrintErrors(t *testing.T) {
	for want, list := range wrongForms() {
		for _, f := range list {
			testPrint(t, f, "", want)
		}
	}
	s, f := largest()
	testPrint(t, api.Form{Fields: append(f.Fields, input("b", api.Int)), Pages: f.Pages}, "", api.ErrSize)
	testPrint(t, api.Form{Fields: f.Fields, Pages: append(f.Pages, pageOf("q"))}, "", api.ErrSize)
	testPrint(t, f, s, api.OK)
	testPrint(t, api.Form{Fields: []api.Field{}, Pages: []api.Page{{Name: "p", Fields: []string{}, Skip: api.Expr{Args: []api.Expr{}}}}}, "page p: ", api.OK)
	testPrint(t, api.Form{Pages: []api.Page{pageOf("p"), pageOf("p")}[:1]}, "page p: ", api.OK) // what is in unused capacity does not count
	testPrint(t, fields{input("a", api.Int)}.with(pageOf("p", []string{"a", "a"}[:1]...)), "input a int\npage p: a", api.OK)
}

// TestNotations: formulas may be written in any form (P13.2), and are printed in
// one (P13.1).
func TestNotations(t *testing.T) {
	sum := node(api.Add, ref("a"), number(1))
	for _, s := range []string{"a + 1", "a+1", " a+1", "a+1 ", "   a  +   1   ", "(a) + 1", "((a + (1)))", " ( a+1 ) "} {
		f := fields{formula("b", api.Int, sum), input("a", api.Int)}.with(pageOf("p", "b", "a"))
		testRead(t, text("formula b int = "+s, "input a int", "page p: b, a"), f, 0, api.OK)
		testPrint(t, f, text("formula b int = a + 1", "input a int", "page p: b, a"), api.OK)
		f = fields{input("a", api.Int), lookup("b", api.Text, sum)}.with(skipped("p", node(api.AtMost, number(0), sum), "a"))
		testRead(t, text("input a int", "lookup b text = "+s, "page p: a; 0 <="+s), f, 0, api.OK)
		testPrint(t, f, text("input a int", "lookup b text = a + 1", "page p: a; 0 <= a + 1"), api.OK)
	}
	for _, s := range []string{"(a)=1", "a=1", "a =1", "a= 1", " a = 1", "((a = 1))"} {
		equal := node(api.Same, ref("a"), number(1))
		f := fields{input("a", api.Int), formula("b", api.Bool, equal)}.with(skipped("p", equal))
		testRead(t, text("input a int", "formula b bool = "+s, "page p: ; "+s), f, 0, api.OK)
	}
}

// wrongFieldLines are not of the form of a field's line.
func wrongFieldLines() []string {
	return []string{
		"", " ", "  ", "what", "input", "input ", "input a", "input a ", "input  a int", " input a int", "input a int ", "input a  int", "input a int x", "input int",
		"input a b int", "input  int", "input a int =", "input a int = ", "input a int = 0", "input a int = a = a", "input a = 0", "input = a int", " = ", " = a", "input a int; a",
		"Input a int", "INPUT a int", "inputs a int", "inpu a int", "field a int", "1 a int", "int a input", "a int", "input a Int", "input a integer", "input a pending",
		"input a fault", "input a 1", "input a boo", "input a texts", "input a\tint", "input\ta int", "input a int\r", "input a int\x00", "\xffinput a int", "input a int\x85",
		"formula a int", "formula a int ", "formula a int =", "formula a int = ", "formula a int =  ", "formula a int =1", "formula a int= 1", "formula a int  = 1",
		"formula a int\t= 1", "formula a = 1", "formula int = 1", "formula  int = 1", "formula a  = 1", "formula a number = 1", "formula a int == 1", "formula a int = = 1",
		"formula a int : 1", "formula a b int = 1", "Formula a int = 1", "formulas a int = 1", " formula a int = 1", " = 1", "1 = 1", "formula a int = 1 +", "formula a int = 1 2",
		"formula a int = (1", "formula a int = 01", "formula a bool = 1 < 2 < 3", "formula a text = \"x", "formula a int = ?", "formula a int = 1\r", "formula a int = \xff",
		"lookup a text", "lookup a text =", "lookup a text = ", "lookup text = 1", "lookup a = text", "lookup a text = if", "lookup a text = a b", "lookup a text = 1; 1",
		"page", "page:", "page: a", "page; a", "Page p: a", " page p: a", "pages p: a", "pag p: a", "page\tp: a", "p: a", ": ", "; ", ", ", "page\xa0p: a",
	}
}

// wrongNames are no names; none of them has a space in it.
func wrongNames() []string {
	return []string{
		"and", "or", "not", "true", "false", "if", "len", "A", "aB", "1", "1a", "a_", "a-b", "-a", "a,", ",a", "a:", ":", ";", "=", "é", "a\xff", "a\x00", "\"a\"", "a\r",
		"aaaaaaaaaaa", "a1234567890", strings.Repeat("a", 1<<12), strings.Repeat(",", 1<<12),
	}
}

// wrongPageLines are not of the form of a page's line, although they begin like
// one.
func wrongPageLines() []string {
	return []string{
		"page ", "page  ", "page p", "page p ", "page p:", "page p:a", "page p : a", "page  p: a", "page : a", "page : ", "page p a: a", "page p:: a", "page p; a", "page p; a: a",
		"page p;: a", "page a int", "page p = a", "page p: a,", "page p: a, ", "page p: ,", "page p: , a", "page p: , ", "page p: a,b", "page p: a , b", "page p: a,  b",
		"page p:  a", "page p:  ", "page p: a ", "page p: a b", "page p: a: b", "page p: a: ", "page p: a;", "page p: ;", "page p: a;b", "page p: ;b", "page p: a ; b", "page p: a; ",
		"page p: ; ", "page p: a;  ", "page p: a; b; c", "page p: ; b; ", "page p: a; : b", "page p: a; not", "page p: a; 1 < 2 < 3", "page p: a; (b", "page p: a; 01", "page p: a; \"",
		"page p: a\r", "page p: a; b\r", "page p: \r", "page p: \t", "page p: a,\tb", "page p: a; \xff", "page \xff: a", "page page p: a", "page p: a = b", "page p:\ta",
	}
}

// TestReadForm: lines that are not of their form, at any place (P13.2).
func TestReadForm(t *testing.T) {
	wrong := append(wrongFieldLines(), wrongPageLines()...)
	for _, name := range wrongNames() {
		wrong = append(wrong, "input "+name+" int", "formula "+name+" int = 1", "lookup "+name+" text = a")
		wrong = append(wrong, "page "+name+": a", "page "+name+": ", "page p: "+name, "page p: a, "+name, "page p: "+name+", a; b", "page p: a, "+name+", b")
	}
	for _, line := range wrong {
		refuse(t, line, 1, api.ErrForm)
		refuse(t, text(line, "input a int", "input b bool", "page q: a"), 1, api.ErrForm)
		refuse(t, text("input b bool", line, "input a int", "page q: a"), 2, api.ErrForm)
		refuse(t, text("input a int", "input b bool", line), 3, api.ErrForm)
		refuse(t, text("input a int", "input b bool", "page q: b", line, "page r: a"), 4, api.ErrForm)
		refuse(t, text("input a int", "input a int", "page q: z", "page q: a, a", line), 5, api.ErrForm) // before that of sheet.Check
		refuse(t, text(line, line), 1, api.ErrForm)
	}
}

// wrongFormulas are of other errors than ErrForm.
func wrongFormulas() map[string]api.Errno {
	return map[string]api.Errno{
		"1099511627777": api.ErrOver, "a < 1099511627777": api.ErrOver, "99999999999999999999999": api.ErrOver, "aaaaaaaaaaa": api.ErrSize,
		`"` + strings.Repeat("x", 41) + `"`: api.ErrSize, strings.Repeat(" ", 160) + "a": api.ErrSize, "a" + strings.Repeat(" ", 1<<12): api.ErrSize,
		strings.Repeat("a+", 30) + "a": api.ErrSize, strings.Repeat("not ", 12) + "a": api.ErrRange, strings.Repeat("-", 12) + "1": api.ErrRange,
		strings.Repeat("not ", 60) + "a": api.ErrSize, strings.Repeat("?", 161): api.ErrSize, "a?aaaaaaaaaaa": api.ErrForm, "aaaaaaaaaaa?": api.ErrSize,
	}
}

// TestReadFormulas: what is wrong with the formulas of lines (P13.2).
func TestReadFormulas(t *testing.T) {
	for x, want := range wrongFormulas() {
		for _, line := range []string{"formula c bool = " + x, "lookup c text = " + x, "page p: ; " + x, "page p: a, b; " + x} {
			refuse(t, line, 1, want)
			refuse(t, text("input b bool", line, "input a int", "page q: a"), 2, want)
			refuse(t, text("input a int", "input b bool", "page q: a", line), 4, want) // before ErrForm, if it is the line of a field
			refuse(t, text("page q: z", "page q: ", line, "input a int"), 3, want)
			refuse(t, text("page q: ", "input a int", line), 2, api.ErrForm)
			refuse(t, text("what", line), 1, api.ErrForm)
			refuse(t, text(line, "what"), 1, want)
		}
		for _, line := range []string{ // ErrForm comes before what is wrong with a formula
			"input c int = " + x, "formula if bool = " + x, "formula c b bool = " + x, "formula c boolean = " + x, "lookups c int = " + x, "lookup c 1 = " + x,
			"page if: ; " + x, "page p: if; " + x, "page p: a,b; " + x, "page p: a, ; " + x, "page p:; " + x,
		} {
			refuse(t, line, 1, api.ErrForm)
			refuse(t, text("page q: ", line), 2, api.ErrForm)
		}
	}
}

// TestReadOrder: no line of a field comes after that of a page (P13.2).
func TestReadOrder(t *testing.T) {
	for _, line := range []string{"input a int", "formula a int = 1", "lookup a int = b", "input b bool"} {
		refuse(t, text("page p: ", line), 2, api.ErrForm)
		refuse(t, text("input b bool", "page p: b; b", line), 3, api.ErrForm)
		refuse(t, text("input b bool", "page p: ", "page q: b", line), 4, api.ErrForm)
		refuse(t, text("input b bool", "page p: ", line, "page q: b"), 3, api.ErrForm)
		refuse(t, text("page p: ", line, line), 2, api.ErrForm)
		refuse(t, text("page p: ", "page p: ", "page if: ", line), 3, api.ErrForm)
	}
}

// TestReadCheck: what is wrong with a form whose lines are all right, which is
// in no line (P13.2).
func TestReadCheck(t *testing.T) {
	for s, want := range map[string]api.Errno{
		"input a int": api.ErrSize, text("input a int", "formula b int = a"): api.ErrSize, strings.Repeat("page p: \n", 6) + "page q: ": api.ErrSize,
		text("input a int", "input a bool", "page p: a"): api.ErrTwice, text("page p: ", "page p: "): api.ErrTwice, text("input a int", "page p: a, a"): api.ErrTwice,
		text("input a int", "page p: a", "page q: a"): api.ErrTwice, text("input b bool", "page p: b; b", "page p: "): api.ErrTwice,
		text("formula a int = b", "page p: a"): api.ErrNone, text("input a int", "page p: b"): api.ErrNone, "page p: ; a": api.ErrNone, "page p: a": api.ErrNone,
		text("formula a int = true", "page p: "): api.ErrType, text("input a int", "page p: ; a"): api.ErrType, text("lookup a int = 1 & 2", "page p: "): api.ErrType,
		text("formula a int = a", "page p: "): api.ErrCycle, text("lookup a int = b", "lookup b int = a", "page p: "): api.ErrCycle,
		text("formula a int = a", "page p: z"): api.ErrCycle, text("formula a int = a", "input a int"): api.ErrTwice,
		text("formula a bool = 1 = 2", "formula b int = 1 = 2", "page p: "): api.ErrType,
	} {
		refuse(t, s, 0, want)
	}
	for want, list := range wrongForms() { // those that have lines
		for _, f := range list {
			if s, ok := lines(f); ok {
				refuse(t, s, 0, want)
			}
		}
	}
}

// lines of a form that is not valid, if only something else than its lines is
// wrong with it.
func lines(f api.Form) (string, bool) {
	var list []string
	for _, one := range f.Fields {
		source, e := expr.Print(one.Source)
		if one.Kind < 1 || one.Kind > 3 || one.Type < 1 || one.Type > 3 || lex.Name(one.Name) != api.OK || (e == api.OK) == (one.Kind == api.Input) {
			return "", false
		}
		line := []string{"", "input ", "formula ", "lookup "}[one.Kind] + one.Name + []string{"", " int", " bool", " text"}[one.Type]
		if e == api.OK {
			line += " = " + source
		}
		list = append(list, line)
	}
	for _, p := range f.Pages {
		line := "page " + p.Name + ": " + strings.Join(p.Fields, ", ")
		if !same(p.Skip, api.Expr{}) {
			skip, e := expr.Print(p.Skip)
			if e != api.OK {
				return "", false
			}
			line += "; " + skip
		}
		if lex.Name(p.Name) != api.OK {
			return "", false
		}
		list = append(list, line)
	}
	return text(list...), 0 < len(list) && len(list) <= 20
}

// TestReadLines: how many lines there can be, and that line feeds are between
// them (P13.2).
func TestReadLines(t *testing.T) {
	most, f := largest()
	testRead(t, most, f, 0, api.OK)
	refuse(t, most+"\n", 0, api.ErrSize)
	refuse(t, "\n"+most, 0, api.ErrSize)
	refuse(t, most+"\npage q: ", 0, api.ErrSize)
	refuse(t, "input b int\n"+most, 0, api.ErrSize)
	refuse(t, "what\n"+most, 0, api.ErrSize)
	refuse(t, most[:strings.LastIndex(most, "\n")]+"\nwhat", 20, api.ErrForm)
	refuse(t, strings.Replace(most, "page p5", "page p0", 1), 0, api.ErrTwice)
	refuse(t, "", 1, api.ErrForm) // a line without bytes, as in other places
	for n := 1; n < 20; n++ {
		refuse(t, strings.Repeat("\n", n), 1, api.ErrForm)
		refuse(t, "input a int"+strings.Repeat("\n", n), 2, api.ErrForm)
		refuse(t, strings.Repeat("page p: \n", n), n+1, api.ErrForm)
		want := api.ErrTwice
		if n+1 > api.MaxPages {
			want = api.ErrSize
		}
		refuse(t, strings.Repeat("page p: \n", n)+"page p: a", 0, want)
		want = api.ErrTwice
		if n+1 > api.MaxFields {
			want = api.ErrSize
		}
		refuse(t, strings.Repeat("input a int\n", n)+"lookup a text = a", 0, want)
	}
	for n := 20; n < 1<<20; n += n {
		for _, s := range []string{"\n", "what\n", "input a int\n", "page p: \n", "\r\n", "\n\n"} {
			refuse(t, strings.Repeat(s, n), 0, api.ErrSize)
			refuse(t, "input a int"+strings.Repeat("\n"+s, n), 0, api.ErrSize)
		}
	}
	a := fields{input("a", api.Int)}.with(pageOf("p", "a"))
	testRead(t, "input a int\npage p: a", a, 0, api.OK)
	for i, s := range []string{"input a int\r\npage p: a", "input a int\n\npage p: a", "input a int\npage p: a\n", "\ninput a int\npage p: a", "input a int\rpage p: a"} {
		refuse(t, s, []int{1, 2, 3, 1, 1}[i], api.ErrForm)
	}
}

// patterns of lines: the names in them may still be keywords.
const (
	word      = `([a-z][a-z0-9]{0,9})`
	wordList  = `((?:` + word + `(?:, ` + word + `)*)?)`
	inputLine = `(?s)^input ` + word + ` (int|bool|text)$`
	otherLine = `(?s)^(formula|lookup) ` + word + ` (int|bool|text) = (.*)$`
	pageLines = `(?s)^page ` + word + `: ` + wordList + `$`
	skipLines = `(?s)^page ` + word + `: ` + wordList + `; (.*)$`
)

// patterned reads texts by patterns: it is what Read is compared with.
type patterned struct{ input, other, page, skip *regexp.Regexp }

// byPatterns compiles the patterns.
func byPatterns() patterned {
	return patterned{regexp.MustCompile(inputLine), regexp.MustCompile(otherLine), regexp.MustCompile(pageLines), regexp.MustCompile(skipLines)}
}

// line adds the line of a text to a form.
func (p patterned) line(f *api.Form, s string) api.Errno {
	var used []string
	var source *string
	isField := false
	if m := p.input.FindStringSubmatch(s); m != nil {
		used, isField = m[1:2], true
		f.Fields = append(f.Fields, input(m[1], typeNumbers()[m[2]]))
	} else if m := p.other.FindStringSubmatch(s); m != nil {
		used, source, isField = m[2:3], &m[4], true
		f.Fields = append(f.Fields, api.Field{Name: m[2], Kind: map[string]int{"formula": api.Formula, "lookup": api.Lookup}[m[1]], Type: typeNumbers()[m[3]]})
	} else if m := p.page.FindStringSubmatch(s); m != nil {
		used = append(m[1:2:2], listed(m[2])...)
		f.Pages = append(f.Pages, pageOf(m[1], listed(m[2])...))
	} else if m := p.skip.FindStringSubmatch(s); m != nil {
		used, source = append(m[1:2:2], listed(m[2])...), &m[5]
		f.Pages = append(f.Pages, pageOf(m[1], listed(m[2])...))
	} else {
		return api.ErrForm
	}
	if slices.ContainsFunc(used, lex.Key) {
		return api.ErrForm
	}
	if source != nil {
		x, _, e := expr.Parse(*source)
		if e != api.OK {
			return e
		}
		if isField {
			f.Fields[len(f.Fields)-1].Source = x
		} else {
			f.Pages[len(f.Pages)-1].Skip = x
		}
	}
	if isField && len(f.Pages) > 0 {
		return api.ErrForm
	}
	return api.OK
}

// typeNumbers are the types by their words.
func typeNumbers() map[string]int {
	return map[string]int{"int": api.Int, "bool": api.Bool, "text": api.Text}
}

// listed is a list of names.
func listed(s string) []string {
	return strings.FieldsFunc(s, func(r rune) bool { return r == ',' || r == ' ' })
}

// read a text.
func (p patterned) read(s string) (api.Form, int, api.Errno) {
	list := strings.Split(s, "\n")
	if len(list) > 20 {
		return api.Form{}, 0, api.ErrSize
	}
	var f api.Form
	for i, line := range list {
		if e := p.line(&f, line); e != api.OK {
			return api.Form{}, i + 1, e
		}
	}
	if e := sheet.Check(f); e != api.OK {
		return api.Form{}, 0, e
	}
	return f, 0, api.OK
}

// test compares Read with the patterns, and reads again what Print makes of the
// form. What is wrong with the text?
func (p patterned) test(t *testing.T, s string) api.Errno {
	t.Helper()
	f, line, e := p.read(s)
	testRead(t, s, f, line, e)
	if e == api.OK {
		again, e := Print(f)
		if e != api.OK {
			t.Errorf("Print of Read(%s) = %d", short(s), e)
		}
		testRead(t, again, f, 0, api.OK)
	}
	return e
}

// TestEdits: texts with one byte less, more, or another (P13.2).
func TestEdits(t *testing.T) {
	p, found := byPatterns(), map[api.Errno]int{}
	for _, s := range []string{
		text("input a int", "lookup c text = a", "formula bb bool = a = 1", "page p: a, bb; bb", "page q: "),
		text(`formula a text = "x"`, "input not2 bool", "page p1: ; not not2", "page p2: not2, a"),
	} {
		for i := range len(s) + 1 {
			for b := range 256 {
				found[p.test(t, s[:i]+string([]byte{byte(b)})+s[i:])]++
				if i < len(s) {
					found[p.test(t, s[:i]+string([]byte{byte(b)})+s[i+1:])]++
				}
			}
			for j := i; j <= len(s); j++ {
				found[p.test(t, s[:i]+s[j:])]++
			}
		}
	}
	for _, e := range []api.Errno{api.OK, api.ErrSize, api.ErrForm, api.ErrTwice, api.ErrNone, api.ErrType, api.ErrCycle} {
		if found[e] < 5 {
			t.Errorf("the texts are too much alike: %v", found)
		}
	}
}

// TestParts: all short sequences of parts of lines (P13.2).
func TestParts(t *testing.T) {
	p, found := byPatterns(), map[bool]int{}
	for start, parts := range map[string][]string{
		"page ":         {"p", ": ", "a", ", ", "; ", " ", "b", ":", ";", ",", "\n", "page "},
		"formula b ":    {"bool", " = ", "a", "=", " ", "1", "\n", "; ", "page p: ", "a = 1"},
		"":              {"input", "formula", "lookup", " ", "a", "int", " = ", "1", "\n", "page ", "p", ": "},
		"input a int\n": {"input ", "b ", "text", "page p: ", "\n", "lookup ", " = ", "a", ", "},
	} {
		var extend func(s string, n int)
		extend = func(s string, n int) {
			for _, before := range []string{"", "input a bool\n"} {
				for _, after := range []string{"", "\npage q: "} {
					found[p.test(t, before+s+after) == api.OK]++
				}
			}
			for _, part := range parts {
				if n > 0 {
					extend(s+part, n-1)
				}
			}
		}
		extend(start, 4)
	}
	if found[true] < 100 || found[false] < 100 {
		t.Errorf("the texts are too much alike: %v", found)
	}
}

// sample is a line, as it is read and as it is printed, and the field or the
// page that it describes.
type sample struct {
	read, printed string
	f             fields
	p             []api.Page
}

// samples are lines of fields and pages.
func samples() []sample {
	a, b := ref("a"), ref("b")
	return []sample{
		{"input a int", "input a int", fields{input("a", api.Int)}, nil},
		{"input b bool", "input b bool", fields{input("b", api.Bool)}, nil},
		{"input b int", "input b int", fields{input("b", api.Int)}, nil},
		{"formula a int = 1+2", "formula a int = 1 + 2", fields{formula("a", api.Int, node(api.Add, number(1), number(2)))}, nil},
		{"formula b bool = (a)=-1", "formula b bool = a = -1", fields{formula("b", api.Bool, node(api.Same, a, node(api.Neg, number(1))))}, nil},
		{"lookup c text = (b and  b)", "lookup c text = b and b", fields{lookup("c", api.Text, node(api.And, b, b))}, nil},
		{"lookup a int =  c", "lookup a int = c", fields{lookup("a", api.Int, ref("c"))}, nil},
		{"formula c int = if( b,a,0 )", "formula c int = if(b, a, 0)", fields{formula("c", api.Int, node(api.If, b, a, number(0)))}, nil},
		{"page p: ", "page p: ", nil, []api.Page{pageOf("p")}},
		{"page p: b, a", "page p: b, a", nil, []api.Page{pageOf("p", "b", "a")}},
		{"page q: c; b", "page q: c; b", nil, []api.Page{skipped("q", b, "c")}},
		{"page q: ; (not(a<1))", "page q: ; not (a < 1)", nil, []api.Page{skipped("q", node(api.Not, node(api.Less, a, number(1))))}},
		{"page r: a", "page r: a", nil, []api.Page{pageOf("r", "a")}},
	}
}

// TestMany: all lists of up to four samples (P13.1, P13.2).
func TestMany(t *testing.T) {
	found := map[api.Errno]int{}
	var extend func(list []sample)
	extend = func(list []sample) {
		found[testSamples(t, list)]++
		for _, s := range samples() {
			if len(list) < 4 {
				extend(append(slices.Clip(list), s))
			}
		}
	}
	for _, s := range samples() {
		extend([]sample{s})
	}
	for _, e := range []api.Errno{api.OK, api.ErrSize, api.ErrForm, api.ErrTwice, api.ErrNone, api.ErrType, api.ErrCycle} {
		if found[e] < 50 {
			t.Errorf("the forms are too much alike: %v", found)
		}
	}
}

// testSamples tests a text of samples, and the text of a form of them. What is
// wrong with the first text?
func testSamples(t *testing.T, list []sample) api.Errno {
	t.Helper()
	var read, printed, behind []string
	var f api.Form
	late := 0 // the first line of a field after that of a page
	for i, s := range list {
		if len(s.f) > 0 && len(f.Pages) > 0 && late == 0 {
			late = i + 1
		}
		read, f.Fields, f.Pages = append(read, s.read), append(f.Fields, s.f...), append(f.Pages, s.p...)
		if len(s.f) > 0 {
			printed = append(printed, s.printed)
		} else {
			behind = append(behind, s.printed)
		}
	}
	e := sheet.Check(f)
	if e == api.OK {
		testPrint(t, f, text(append(printed, behind...)...), api.OK)
	} else {
		testPrint(t, f, "", e)
	}
	switch {
	case late > 0:
		e = api.ErrForm
		refuse(t, text(read...), late, e)
	case e == api.OK:
		testRead(t, text(read...), f, 0, api.OK)
	default:
		refuse(t, text(read...), 0, e)
	}
	return e
}

// TestReadLarge: texts that are much longer than that of any form (P13.2).
func TestReadLarge(t *testing.T) {
	const n = 1 << 19
	for _, part := range []string{" ", "a", "input ", "a int ", " = ", "= ", "; ", ": ", ", ", "page ", "input a int", "\xff", "a, a"} {
		long := strings.Repeat(part, n)
		for _, start := range []string{"", "input ", "input a ", "input a int", "input a int ", "formula a", "formula a int  = ", "page ", "page p", "page p:", "page p: ,"} {
			refuse(t, start+long, 1, api.ErrForm)
			refuse(t, text("input a int", start+long, "page p: a"), 2, api.ErrForm)
		}
		refuse(t, text("formula a int = "+long, "page p: a"), 1, api.ErrSize)
		refuse(t, text("input a int", "page p: a; "+long), 2, api.ErrSize)
	}
	many := strings.Repeat("a, ", n)
	refuse(t, text("input a int", "page p: "+many+"a"), 0, api.ErrTwice)
	refuse(t, text("input b int", "page p: "+many+"a; true"), 0, api.ErrNone)
	refuse(t, text("input a int", "page p: "+many), 2, api.ErrForm)
	refuse(t, text("input a int", "page p: "+many+"a", "page if: "), 3, api.ErrForm)
}

// roomyList is a copy of a list, with unused capacity that has something in it.
func roomyList[T any](l []T, unused T) []T {
	all := slices.Repeat([]T{unused}, len(l)+2)
	copy(all, l)
	return all[:len(l)]
}

// roomy is a copy of a formula, with unused capacity like that.
func roomy(x api.Expr) api.Expr {
	x.Args = roomyList(x.Args, ref("unused"))
	for i, arg := range x.Args {
		x.Args[i] = roomy(arg)
	}
	return x
}

// roomyForm is a copy of a form, with unused capacity like that.
func roomyForm(f api.Form) api.Form {
	f.Fields = roomyList(f.Fields, formula("unused", api.Int, node(api.Add, ref("a"), ref("b"))))
	f.Pages = roomyList(f.Pages, skipped("unused", node(api.Not, ref("a")), "unused", "a"))
	for i := range f.Fields {
		f.Fields[i].Source = roomy(f.Fields[i].Source)
	}
	for i, p := range f.Pages {
		f.Pages[i].Fields, f.Pages[i].Skip = roomyList(p.Fields, "unused"), roomy(p.Skip)
	}
	return f
}

// wholeList is all of a list, and what is in its unused capacity.
func wholeList[T any](l []T) []T { return slices.Clone(l[:cap(l)]) }

// whole of a formula: also what is in its unused capacity.
func whole(x api.Expr) api.Expr {
	x.Args = wholeList(x.Args)
	for i, arg := range x.Args {
		x.Args[i] = whole(arg)
	}
	return x
}

// wholeForm is all of a form, and what is in its unused capacity.
func wholeForm(f api.Form) api.Form {
	f.Fields, f.Pages = wholeList(f.Fields), wholeList(f.Pages)
	for i := range f.Fields {
		f.Fields[i].Source = whole(f.Fields[i].Source)
	}
	for i, p := range f.Pages {
		f.Pages[i].Fields, f.Pages[i].Skip = wholeList(p.Fields), whole(p.Skip)
	}
	return f
}

// places in memory, each with how often it is found.
type places map[any]int

// ofList adds the places of a list, with the unused ones.
func ofList[T any](found places, l []T) {
	l = l[:cap(l)]
	for i := range l {
		found[&l[i]]++
	}
}

// ofFormula adds the places of the lists of a formula.
func ofFormula(found places, x api.Expr) {
	ofList(found, x.Args)
	for _, arg := range x.Args {
		ofFormula(found, arg)
	}
}

// ofForm adds the places of the lists of a form.
func ofForm(found places, f api.Form) {
	ofList(found, f.Fields)
	ofList(found, f.Pages)
	for _, one := range f.Fields[:cap(f.Fields)] {
		ofFormula(found, one.Source)
	}
	for _, p := range f.Pages[:cap(f.Pages)] {
		ofList(found, p.Fields)
		ofFormula(found, p.Skip)
	}
}

// someLines are a text, and someForm is the form that it describes.
func someLines() string {
	return text("input a int", "input b bool", "formula c int = a - (a - 1)", "lookup d text = c", "page p: a, b", "page q: c, d; b and a = 1")
}
func someForm() api.Form {
	a := ref("a")
	return fields{
		input("a", api.Int), input("b", api.Bool), formula("c", api.Int, node(api.Sub, a, node(api.Sub, a, number(1)))), lookup("d", api.Text, ref("c")),
	}.with(pageOf("p", "a", "b"), skipped("q", node(api.And, ref("b"), node(api.Same, a, number(1))), "c", "d"))
}

// TestArguments: arguments stay as they are (P13.1).
func TestArguments(t *testing.T) {
	f, wrong := roomyForm(someForm()), roomyForm(someForm())
	wrong.Pages[1].Fields[1] = "a"
	before, beforeWrong := wholeForm(f), wholeForm(wrong)
	for range 3 {
		testPrint(t, f, someLines(), api.OK)
		testPrint(t, wrong, "", api.ErrTwice)
		if !reflect.DeepEqual(wholeForm(f), before) || !reflect.DeepEqual(wholeForm(wrong), beforeWrong) {
			t.Fatalf("Print changed a form")
		}
	}
}

// TestResults: nothing is kept between calls, and forms are new memory (P13.2).
func TestResults(t *testing.T) {
	found := places{}
	for range 3 {
		testRead(t, someLines(), someForm(), 0, api.OK)
		refuse(t, someLines()+"\nwhat", 7, api.ErrForm)
		refuse(t, someLines()+"\npage p: ", 0, api.ErrTwice)
		f, _, _ := Read(someLines())
		ofForm(found, f)
		f.Fields[0].Name, f.Pages[0].Fields[0], f.Pages[1].Skip.Args[0].Name = "x", "x", "x" // this changes no other result
	}
	for _, n := range found {
		if n > 1 {
			t.Fatalf("lists share memory")
		}
	}
}
