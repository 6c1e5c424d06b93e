package sheet

import (
	"fmt"
	"math"
	"reflect"
	"slices"
	"strconv"
	"strings"
	"testing"

	"lychway/api"
	"lychway/expr"
)

// ref and number are formulas of one node, and node has Args.
func ref(name string) api.Expr            { return api.Expr{Op: api.Ref, Name: name} }
func number(n int) api.Expr               { return api.Expr{Op: api.Const, V: integer(n)} }
func node(op int, l ...api.Expr) api.Expr { return api.Expr{Op: op, Args: l} }

// integer, boolean and text are values.
func integer(n int) api.Value { return api.Value{Kind: api.Int, N: n} }
func boolean(n int) api.Value { return api.Value{Kind: api.Bool, N: n} }
func text(s string) api.Value { return api.Value{Kind: api.Text, S: s} }

// input is a field.
func input(name string, kind int) api.Field {
	return api.Field{Name: name, Kind: api.Input, Type: kind}
}

// told is a fact that sets an Input.
func told(name string, v api.Value) api.Fact { return api.Fact{Name: name, Has: v} }

// read is the formula of a notation, which must be valid; there is none in an
// empty string.
func read(s string) api.Expr {
	if s == "" {
		return api.Expr{}
	}
	x, at, e := expr.Parse(s)
	if e != api.OK {
		panic("Parse of " + s + ": error " + strconv.Itoa(int(e)) + " at " + strconv.Itoa(at))
	}
	return x
}

// form of a line for each field and each page: "input a int", "formula b bool
// = a < 3", "lookup c text = b", "page p: a, b; a = 0". Only the formulas must
// be valid.
func form(lines ...string) api.Form {
	var f api.Form
	for _, line := range lines {
		kind, rest, _ := strings.Cut(line, " ")
		if kind == "page" {
			name, rest, _ := strings.Cut(rest, ": ")
			on, skip, _ := strings.Cut(rest, "; ")
			f.Pages = append(f.Pages, api.Page{Name: name, Fields: strings.FieldsFunc(on, isBreak), Skip: read(skip)})
			continue
		}
		head, source, _ := strings.Cut(rest, " = ")
		name, own, _ := strings.Cut(head, " ")
		f.Fields = append(f.Fields, api.Field{Name: name, Kind: kinds[kind], Type: types[own], Source: read(source)})
	}
	return f
}

// isBreak: is a rune not part of a name?
func isBreak(r rune) bool { return r == ',' || r == ' ' }

// kinds of fields and types, by their words.
var kinds = map[string]int{"input": api.Input, "formula": api.Formula, "lookup": api.Lookup}
var types = map[string]int{"int": api.Int, "bool": api.Bool, "text": api.Text}

// and a form some more lines.
func and(f api.Form, lines ...string) api.Form {
	more := form(lines...)
	return api.Form{Fields: append(slices.Clip(f.Fields), more.Fields...), Pages: append(slices.Clip(f.Pages), more.Pages...)}
}

// shown is a form as text: its first fields and pages; a formula that is not
// valid is shown without its Args.
func shown(f api.Form) string {
	list := []string{fmt.Sprint(len(f.Fields), " fields, ", len(f.Pages), " pages")}
	for _, one := range f.Fields[:min(len(f.Fields), 20)] {
		list = append(list, fmt.Sprintf("%q %d %d = %s", one.Name, one.Kind, one.Type, shownFormula(one.Source)))
	}
	for _, p := range f.Pages[:min(len(f.Pages), 20)] {
		list = append(list, fmt.Sprintf("page %q: %q; %s", p.Name, p.Fields[:min(len(p.Fields), 20)], shownFormula(p.Skip)))
	}
	return "[" + strings.Join(list, " | ") + "]"
}

// shownFormula is a formula as text.
func shownFormula(x api.Expr) string {
	s, e := expr.Print(x)
	if e != api.OK {
		return fmt.Sprintf("Op %d, %d %d %q, %q, %d Args", x.Op, x.V.Kind, x.V.N, x.V.S, x.Name, len(x.Args))
	}
	return s
}

// tall is a formula with n Nots above the last node.
func tall(n int, last api.Expr) api.Expr {
	for range n {
		last = node(api.Not, last)
	}
	return last
}

// some form of fields of all kinds and types, which are not in the order of
// their names, and refer to fields before and behind their own; b, d and s are
// on no page.
func some() api.Form {
	return form(
		"formula b int = a + 1", "input a int", "lookup c text = b", "input yes bool", "formula d bool = yes and len(c) < e",
		"lookup e int = s & c", "input s text", `formula u text = if(d, c, "none")`, "lookup v bool = not d",
		"page p2: v, a", "page p1: ", "page q: u, c; yes", "page p: e, yes; a < 3 and c = s",
	)
}

// numbered has n Inputs, whose names differ, and one page.
func numbered(n int) api.Form {
	f := form("page p: ")
	for i := range n {
		f.Fields = append(f.Fields, input("a"+strconv.Itoa(i), api.Int))
	}
	return f
}

// testForm tests what is wrong with a form, which fields are Inputs, and which
// ones are on no page.
func testForm(t *testing.T, f api.Form, want api.Errno, inputs []int, free []string) {
	t.Helper()
	if e := Check(f); e != want {
		t.Errorf("Check(%s) = %d, want %d", shown(f), e, want)
	}
	if l, e := Inputs(f); e != want || !slices.Equal(l, inputs) {
		t.Errorf("Inputs(%s) = %v, %d, want %v, %d", shown(f), l, e, inputs, want)
	}
	if l, e := Free(f); e != want || !slices.Equal(l, free) {
		t.Errorf("Free(%s) = %q, %d, want %q, %d", shown(f), l, e, free, want)
	}
}

// testWrong tests what is wrong with a form: then there are no lists.
func testWrong(t *testing.T, f api.Form, want api.Errno) {
	t.Helper()
	testForm(t, f, want, nil, nil)
}

// TestForm: forms that are valid, with their Inputs and the fields that are on
// no page, in the order of the fields (P12.1 to P12.3).
func TestForm(t *testing.T) {
	testForm(t, some(), api.OK, []int{1, 3, 6}, []string{"b", "d", "s"})
	for _, c := range []struct {
		f      api.Form
		inputs []int
		free   []string
	}{
		{form("input a int", "input b int", "input c int", "page p: b"), []int{0, 1, 2}, []string{"a", "c"}}, // the example
		{form("page p: "), nil, nil},
		{form("page p: ; true"), nil, nil},
		{form("input a int", "page p: "), []int{0}, []string{"a"}},
		{form("input a int", "page p: a"), []int{0}, nil},
		{form("formula a int = 1", "lookup b text = a", "page p: a"), nil, []string{"b"}},
		{form("lookup b text = a", "formula a int = 1", "page p: b, a"), nil, nil},
		{form("input c int", "input a int", "input b int", "page p: "), []int{0, 1, 2}, []string{"c", "a", "b"}},
		{form("input c int", "input a int", "input b int", "page p: b", "page q: c, a"), []int{0, 1, 2}, nil},
		{form("input a int", "formula b int = c", "input c int", "page p: c, b, a"), []int{0, 2}, nil},
		{form("formula b int = a", "formula c int = b", "input a int", "page p: ", "page q: ", "page r: c"), []int{2}, []string{"b", "a"}},
		{form("input a bool", "input b bool", "page p: ; a", "page q: b; not a"), []int{0, 1}, []string{"a"}}, // a Skip is not a place
		{form("input a bool", "formula b bool = a", "page p: a; true"), []int{0}, []string{"b"}},
		{form("input p int", "input aa int", "input a int", "page a: aa", "page aa: "), []int{0, 1, 2}, []string{"p", "a"}}, // nor is a name
		{form("formula b int = a", "input a int", "page p: b"), []int{1}, []string{"a"}},                                    // nor is a Source
		{form("lookup a bool = 1 / 0", "input b text", "page p: ; a"), []int{1}, []string{"a", "b"}},
	} {
		testForm(t, c.f, api.OK, c.inputs, c.free)
		testForm(t, api.Form{Fields: c.f.Fields}, api.ErrSize, nil, nil)
	}
	testForm(t, api.Form{Fields: []api.Field{}, Pages: []api.Page{{Name: "p", Fields: []string{}}}}, api.OK, nil, nil)
	f := numbered(4)
	f.Fields, f.Pages[0].Fields = f.Fields[1:3], []string{"a2", "a1"}[:1] // what is in unused capacity does not count
	testForm(t, f, api.OK, []int{0, 1}, []string{"a1"})
}

// wrongFields are forms without pages, or whose pages do not matter, with what
// is wrong with their fields.
func wrongFields() map[api.Errno][]api.Form {
	odd := func(l ...api.Field) api.Form { return api.Form{Fields: append(l, some().Fields[3:6]...)} }
	return map[api.Errno][]api.Form{
		api.ErrSize: {
			numbered(15), numbered(99), odd(api.Field{}), odd(input("aaaaaaaaaaa", api.Int)), {Fields: make([]api.Field, 1<<18)},
			odd(api.Field{Name: "a", Kind: api.Lookup, Type: api.Int, Source: tall(60, ref("yes"))}),
		},
		api.ErrForm: {
			form("input A int"), form("input a int", "input if text"), odd(api.Field{Name: "a", Kind: api.Formula, Type: api.Int, Source: ref("A")}),
			odd(api.Field{Name: "a", Kind: api.Input, Type: api.Int, Source: number(1)}), form("input a int = 0"),
		},
		api.ErrKind: {
			odd(input("a", 0)), odd(input("a", api.Fault)), odd(input("a", api.Pending)), form("formula a int"), form("lookup a int"), form("inputs a int"),
			odd(input("a", math.MinInt)), odd(api.Field{Name: "a", Kind: api.Formula, Type: api.Int, Source: node(api.Neg, api.Expr{})}),
		},
		api.ErrRange: {odd(api.Field{Name: "a", Kind: api.Formula, Type: api.Bool, Source: tall(12, ref("yes"))})},
		api.ErrTwice: {form("input a int", "input a int"), form("input a int", "formula b int = a", "lookup a int = b"), and(some(), "input a int")},
		api.ErrNone:  {form("formula b int = a"), form("input a int", "lookup c text = b"), form("formula a bool = p")},
		api.ErrType:  {form("formula b int = true"), form("input a int", "lookup b int = a & a"), form("formula a bool = b", "formula b int = a")},
		api.ErrCycle: {
			form("formula a int = a"), form("lookup b bool = b"), form("formula b int = a", "formula a int = b"), form("input c int", "lookup b int = -b"),
			form("lookup a text = b", "formula b int = len(c)", "lookup c text = a"), and(some(), "formula z bool = z", "input yy int"),
		},
	}
}

// wrongPages are forms without fields, with what is wrong with their pages if
// there are fields a and b, which are an Int and a Bool.
func wrongPages() map[api.Errno][]api.Form {
	return map[api.Errno][]api.Form{
		api.OK: {
			form("page p: "), form("page p: b, a"), form("page p: ; b"), form("page p: a; a < 3", "page q: ", "page r: b; b and a = 2"),
			form("page a: ", "page b: "), form("page p: ", "page q: ", "page r: ", "page s: ", "page t: ", "page u: a"),
		},
		api.ErrSize: {
			form(), {Pages: []api.Page{}}, {Pages: make([]api.Page, 1)}, {Pages: make([]api.Page, 1<<18)}, form("page aaaaaaaaaaa: a"),
			form("page p: ", "page q: ", "page r: ", "page s: ", "page t: ", "page u: ", "page v: "),
			{Pages: []api.Page{{Name: "p", Skip: tall(60, ref("b"))}}},
		},
		api.ErrForm:  {form("page A: a"), form("page p: ", "page if: "), {Pages: []api.Page{{Name: "p", Skip: ref("B")}}}},
		api.ErrTwice: {form("page p: ", "page p: "), form("page p: a, a"), form("page p: a", "page q: b, a"), form("page p: b", "page q: ; b", "page q: a")},
		api.ErrNone:  {form("page p: z"), form("page p: a", "page q: b, p"), form("page p: ; z"), form("page p: a; if(true, b, z)")},
		api.ErrType:  {form("page p: ; a"), form("page p: a, b; b = a"), form("page p: b", "page q: a; 1")},
		api.ErrKind:  {{Pages: []api.Page{{Name: "p", Skip: api.Expr{Op: 99}}}}, {Pages: []api.Page{{Name: "p", Skip: api.Expr{Name: "b"}}}}},
		api.ErrRange: {{Pages: []api.Page{{Name: "p", Skip: tall(12, ref("b"))}}}},
	}
}

// TestCheck: all that can be wrong with fields, a cycle among it, comes before
// what is wrong with pages (P12.1), and there are no lists then (P12.2, P12.3).
func TestCheck(t *testing.T) {
	for wrong, pages := range wrongPages() {
		for _, p := range pages {
			for want, list := range wrongFields() {
				for _, f := range list {
					testWrong(t, api.Form{Fields: f.Fields, Pages: p.Pages}, want)
				}
			}
			for _, f := range []api.Form{form("input a int", "input b bool"), form("formula b bool = a < 3", "lookup a int = true", "input c text")} {
				f.Pages = p.Pages
				if wrong != api.OK {
					testWrong(t, f, wrong)
				} else if e := Check(f); e != api.OK {
					t.Errorf("Check(%s) = %d, want 0", shown(f), e)
				}
			}
		}
	}
	testWrong(t, api.Form{}, api.ErrSize)
	testWrong(t, api.Form{Fields: []api.Field{}, Pages: []api.Page{}}, api.ErrSize)
}

// TestLimits: as many fields and pages as there can be, and more (P12.1 to
// P12.3).
func TestLimits(t *testing.T) {
	var inputs []int
	var free []string
	for n := range api.MaxFields + 1 {
		testForm(t, numbered(n), api.OK, inputs, free)
		on := numbered(n)
		on.Pages[0].Fields = free
		testForm(t, on, api.OK, inputs, nil)
		inputs, free = append(inputs, n), append(free, "a"+strconv.Itoa(n))
	}
	for n := range 2 * api.MaxPages {
		f := api.Form{Fields: numbered(api.MaxFields).Fields}
		for i := range n {
			f.Pages = append(f.Pages, api.Page{Name: "p" + strconv.Itoa(i), Fields: []string{"a" + strconv.Itoa(13-i)}})
		}
		if n == 0 || n > api.MaxPages {
			testWrong(t, f, api.ErrSize)
			continue
		}
		testForm(t, f, api.OK, inputs[:14], free[:14-n])
		f.Fields = append(f.Fields, input("b", api.Int))
		testWrong(t, f, api.ErrSize)
	}
}

// sample is a line of a form, with what is wrong with its name. A field's
// Source, or a page's Skip, refers to the field ref, if any, which must be of
// the type need, if that is any; if the formula has a wrong type anyway, misfit.
type sample struct {
	line   string
	wrong  api.Errno
	ref    string
	need   int
	misfit bool
}

// fieldSamples are lines of fields.
func fieldSamples() []sample {
	return []sample{
		{line: "input a int"}, {line: "input b bool"}, {line: "input c int"}, {line: "input if int", wrong: api.ErrForm},
		{line: "formula a int = b", ref: "b", need: api.Int}, {line: "formula b bool = not c", ref: "c", need: api.Bool},
		{line: "formula c bool = a < 3", ref: "a", need: api.Int}, {line: "formula b int = c * c", ref: "c", need: api.Int},
		{line: "lookup b int = a", ref: "a"}, {line: "lookup a bool = c", ref: "c"}, {line: "lookup c int = b", ref: "b"},
		{line: "formula a text = 1", misfit: true}, {line: "lookup c text = c", ref: "c"},
	}
}

// pageSamples are lines of pages.
func pageSamples() []sample {
	return []sample{
		{line: "page p: "}, {line: "page p: a"}, {line: "page q: b, a"}, {line: "page q: c; b", ref: "b", need: api.Bool}, {line: "page r: c, c"},
		{line: "page r: ; a = 1", ref: "a", need: api.Int}, {line: "page if: ", wrong: api.ErrForm}, {line: "page s: b; 1", misfit: true},
		{line: "page s: z"},
	}
}

// wrongType is what is wrong with the Source or the Skip of a sample.
func wrongType(s sample, fields []api.Field) api.Errno {
	i := slices.IndexFunc(fields, func(f api.Field) bool { return f.Name == s.ref })
	switch {
	case s.ref != "" && i < 0:
		return api.ErrNone
	case s.misfit || s.need != 0 && fields[i].Type != s.need:
		return api.ErrType
	}
	return api.OK
}

// isCycle: can one go from a sample to the one that it refers to, and so on, as
// often as there are samples?
func isCycle(list []sample, from sample) bool {
	for range list {
		i := slices.IndexFunc(list, func(s sample) bool { return from.ref != "" && strings.Fields(s.line)[1] == from.ref })
		if i < 0 {
			return false
		}
		from = list[i]
	}
	return true
}

// wrongWithFields is what is wrong with fields, or OK, in the order in which it
// counts.
func wrongWithFields(list []sample, fields []api.Field) []api.Errno {
	var wrong, later []api.Errno
	for i, s := range list {
		wrong = append(wrong, s.wrong)
		if slices.ContainsFunc(fields[:i], func(f api.Field) bool { return f.Name == fields[i].Name }) {
			wrong = append(wrong, api.ErrTwice)
		}
		later = append(later, wrongType(s, fields))
	}
	for _, s := range list {
		if isCycle(list, s) {
			later = append(later, api.ErrCycle)
		}
	}
	return append(wrong, later...)
}

// wrongWithPages is what is wrong with pages, or OK, in the order in which it
// counts.
func wrongWithPages(list []sample, f api.Form) []api.Errno {
	if len(list) == 0 {
		return []api.Errno{api.ErrSize}
	}
	var wrong []api.Errno
	called, on := map[string]bool{}, map[string]bool{}
	for i, p := range f.Pages {
		wrong = append(wrong, list[i].wrong)
		if called[p.Name] {
			wrong = append(wrong, api.ErrTwice)
		}
		called[p.Name] = true
		for _, name := range p.Fields {
			if !slices.ContainsFunc(f.Fields, func(one api.Field) bool { return one.Name == name }) {
				wrong = append(wrong, api.ErrNone)
			}
			if on[name] {
				wrong = append(wrong, api.ErrTwice)
			}
			on[name] = true
		}
		wrong = append(wrong, wrongType(list[i], f.Fields))
	}
	return wrong
}

// listsOf up to n samples.
func listsOf(n int, all []sample) [][]sample {
	lists := [][]sample{nil}
	for i := 0; i < len(lists); i++ {
		for _, s := range all {
			if len(lists[i]) < n {
				lists = append(lists, append(slices.Clip(lists[i]), s))
			}
		}
	}
	return lists
}

// testSamples tests a form of samples, and returns what is wrong with it.
func testSamples(t *testing.T, fields, pages []sample) api.Errno {
	var lines, free []string
	var inputs []int
	on := map[string]bool{}
	for _, s := range pages {
		lines = append(lines, s.line)
		list, _, _ := strings.Cut(s.line, ";")
		for _, name := range strings.FieldsFunc(list, isBreak)[2:] {
			on[name] = true
		}
	}
	for i, s := range fields {
		lines = append(lines, s.line)
		words := strings.Fields(s.line)
		if words[0] == "input" {
			inputs = append(inputs, i)
		}
		if !on[words[1]] {
			free = append(free, words[1])
		}
	}
	f := form(lines...)
	for _, e := range append(wrongWithFields(fields, f.Fields), wrongWithPages(pages, f)...) {
		if e != api.OK {
			testWrong(t, f, e)
			return e
		}
	}
	testForm(t, f, api.OK, inputs, free)
	return api.OK
}

// TestMany: all forms of up to three fields and two pages of samples (P12.1 to
// P12.3).
func TestMany(t *testing.T) {
	found := map[api.Errno]int{}
	for _, fields := range listsOf(3, fieldSamples()) {
		for _, pages := range listsOf(2, pageSamples()) {
			found[testSamples(t, fields, pages)]++
		}
	}
	for _, e := range []api.Errno{api.OK, api.ErrSize, api.ErrForm, api.ErrTwice, api.ErrNone, api.ErrType, api.ErrCycle} {
		if found[e] < 90 {
			t.Errorf("the forms are too much alike: %v", found)
		}
	}
}

// same: are two formulas the same, be their empty lists nil or not?
func same(x, y api.Expr) bool {
	return x.Op == y.Op && x.V == y.V && x.Name == y.Name && slices.EqualFunc(x.Args, y.Args, same)
}

// sameForm: are two forms the same?
func sameForm(a, b api.Form) bool {
	return slices.EqualFunc(a.Fields, b.Fields, func(f, g api.Field) bool {
		return f.Name == g.Name && f.Kind == g.Kind && f.Type == g.Type && same(f.Source, g.Source)
	}) && slices.EqualFunc(a.Pages, b.Pages, func(p, q api.Page) bool {
		return p.Name == q.Name && slices.Equal(p.Fields, q.Fields) && same(p.Skip, q.Skip)
	})
}

// roomyList is a copy of a list, with unused capacity that has something in it.
func roomyList[T any](l []T, unused T) []T {
	all := slices.Repeat([]T{unused}, len(l)+2)
	copy(all, l)
	return all[:len(l)]
}

// roomy is a copy of a formula, with unused capacity like that.
func roomy(x api.Expr) api.Expr {
	x.Args = roomyList(x.Args, ref("unused"))
	for i, arg := range x.Args {
		x.Args[i] = roomy(arg)
	}
	return x
}

// roomyForm is a copy of a form, with unused capacity like that.
func roomyForm(f api.Form) api.Form {
	unused := form("formula unused int = a + b", "page unused: unused, a; a and b")
	f.Fields, f.Pages = roomyList(f.Fields, unused.Fields[0]), roomyList(f.Pages, unused.Pages[0])
	for i := range f.Fields {
		f.Fields[i].Source = roomy(f.Fields[i].Source)
	}
	for i, p := range f.Pages {
		f.Pages[i].Fields, f.Pages[i].Skip = roomyList(p.Fields, "unused"), roomy(p.Skip)
	}
	return f
}

// wholeList is all of a list, and what is in its unused capacity.
func wholeList[T any](l []T) []T { return slices.Clone(l[:cap(l)]) }

// whole of a formula: also what is in its unused capacity.
func whole(x api.Expr) api.Expr {
	x.Args = wholeList(x.Args)
	for i, arg := range x.Args {
		x.Args[i] = whole(arg)
	}
	return x
}

// wholeForm is all of a form, and what is in its unused capacity.
func wholeForm(f api.Form) api.Form {
	f.Fields, f.Pages = wholeList(f.Fields), wholeList(f.Pages)
	for i := range f.Fields {
		f.Fields[i].Source = whole(f.Fields[i].Source)
	}
	for i, p := range f.Pages {
		f.Pages[i].Fields, f.Pages[i].Skip = wholeList(p.Fields), whole(p.Skip)
	}
	return f
}

// places in memory, each with how often it is found.
type places map[any]int

// ofList adds the places of a list, with the unused ones.
func ofList[T any](found places, l []T) {
	l = l[:cap(l)]
	for i := range l {
		found[&l[i]]++
	}
}

// ofFormula adds the places of the lists of a formula.
func ofFormula(found places, x api.Expr) {
	ofList(found, x.Args)
	for _, arg := range x.Args {
		ofFormula(found, arg)
	}
}

// ofForm adds the places of the lists of a form.
func ofForm(found places, f api.Form) {
	ofList(found, f.Fields)
	ofList(found, f.Pages)
	for _, one := range f.Fields[:cap(f.Fields)] {
		ofFormula(found, one.Source)
	}
	for _, p := range f.Pages[:cap(f.Pages)] {
		ofList(found, p.Fields)
		ofFormula(found, p.Skip)
	}
}

// testCopy tests a copy of a form: it is the same, in new memory, and the form
// stays as it is.
func testCopy(t *testing.T, f api.Form) {
	t.Helper()
	before, own, found := wholeForm(f), places{}, places{}
	ofForm(own, f)
	one, two := Copy(f), Copy(f)
	if !sameForm(one, f) || !sameForm(two, f) {
		t.Errorf("Copy(%s) = %s, and then %s", shown(f), shown(one), shown(two))
	}
	ofForm(found, one)
	ofForm(found, two)
	for place, n := range found {
		if n > 1 || own[place] > 0 {
			t.Fatalf("Copy(%s) shares memory", shown(f))
		}
	}
	if !reflect.DeepEqual(wholeForm(f), before) {
		t.Errorf("Copy(%s) changed it", shown(f))
	}
}

// oddForm is not valid in many ways, and has the same lists several times.
func oddForm() api.Form {
	twice, on := []api.Expr{ref("a"), node(api.Neg, ref("b"))}, []string{"a", "b"}
	odd := api.Expr{Name: "a", V: api.Value{Kind: 9, N: -1, S: "\n"}, Args: twice}
	return api.Form{
		Fields: []api.Field{
			{}, {Name: "if", Kind: -1, Type: 99}, {Name: "\xff", Type: 4, Source: odd}, {Source: node(api.Sub, node(0, twice...), node(77, twice...))},
			{Kind: api.Input, Source: node(api.If, make([]api.Expr, 99)...)}, {Source: api.Expr{Args: []api.Expr{}}}, {Name: "if", Source: tall(99, node(0))},
		},
		Pages: []api.Page{
			{}, {Name: "if", Fields: []string{"", "\xff"}}, {Name: "\xff", Fields: on, Skip: odd}, {Fields: on, Skip: node(api.Add, twice...)},
			{Fields: make([]string, 1<<12)}, {Name: "if", Fields: on[:1], Skip: tall(99, node(0))}, {Fields: []string{}, Skip: api.Expr{Args: []api.Expr{}}},
		},
	}
}

// TestCopy: copies of forms, valid or not (P12.4).
func TestCopy(t *testing.T) {
	list := []api.Form{
		{}, {Fields: []api.Field{}, Pages: []api.Page{}}, some(), oddForm(), numbered(14), numbered(99), {Fields: some().Fields}, {Pages: some().Pages},
		{Fields: some().Fields[2:5], Pages: some().Pages[1:3]}, {Fields: make([]api.Field, 1<<12), Pages: make([]api.Page, 1<<12)},
		{Fields: append(some().Fields, oddForm().Fields...), Pages: append(oddForm().Pages, some().Pages...)},
	}
	for _, forms := range []map[api.Errno][]api.Form{wrongPages(), wrongFields()} {
		for _, l := range forms {
			list = append(list, slices.DeleteFunc(l, func(f api.Form) bool { return len(f.Fields)+len(f.Pages) > 1<<12 })...)
		}
	}
	for _, f := range list {
		testCopy(t, f)
		testCopy(t, roomyForm(f))
	}
	large := api.Form{
		Fields: slices.Repeat([]api.Field{{Name: "a", Source: tall(1<<16-1, ref("a"))}}, 2),
		Pages:  []api.Page{{Name: "p", Fields: make([]string, 1<<20), Skip: tall(1<<16-1, ref("b"))}},
	}
	if f := Copy(large); !sameForm(f, large) || &f.Fields[1].Source.Args[0] == &f.Fields[0].Source.Args[0] {
		t.Errorf("Copy of a large form is another one, or shares memory")
	}
}

// change all formulas below a node.
func change(x *api.Expr) {
	for i := range x.Args {
		change(&x.Args[i])
	}
	x.Op, x.Name, x.Args = 9, "other", append(x.Args, ref("other"))
}

// TestCopyChanged: a change to a copy changes nothing else (P12.4).
func TestCopyChanged(t *testing.T) {
	f := some()
	result := Copy(f)
	for i := range result.Fields {
		one := &result.Fields[i]
		change(&one.Source)
		one.Name, one.Kind, one.Type = "other", 9, 9
	}
	for i := range result.Pages {
		p := &result.Pages[i]
		change(&p.Skip)
		for j := range p.Fields {
			p.Fields[j] = "other"
		}
		p.Name, p.Fields = "other", append(p.Fields, "other")
	}
	if !sameForm(f, some()) || !sameForm(Copy(f), some()) {
		t.Errorf("a change to a copy changed the form: %s", shown(f))
	}
}

// shownFacts are the first facts as text.
func shownFacts(l []api.Fact) string {
	list := []string{fmt.Sprint(len(l), " facts")}
	for _, f := range l[:min(len(l), 20)] {
		list = append(list, fmt.Sprintf("%q: %d %d %q by %d %d %q", f.Name, f.Has.Kind, f.Has.N, f.Has.S, f.Key.Kind, f.Key.N, f.Key.S))
	}
	return "[" + strings.Join(list, " | ") + "]"
}

// testFacts tests what is wrong with facts for a form.
func testFacts(t *testing.T, f api.Form, l []api.Fact, want api.Errno) {
	t.Helper()
	if e := Facts(f, l); e != want {
		t.Errorf("Facts(%s, %s) = %d, want %d", shown(f), shownFacts(l), e, want)
	}
}

// values by their types, and those that are not Known by 0.
func values() map[int][]api.Value {
	return map[int][]api.Value{
		api.Int:  {integer(0), integer(3), integer(-3), integer(api.MaxNumber), integer(-api.MaxNumber)},
		api.Bool: {boolean(0), boolean(1)},
		api.Text: {text(""), text("a"), text("1"), text(strings.Repeat("~", 40)), text(` "\`)},
		0: {
			{}, {Kind: 4}, {Kind: 5, N: 1}, {Kind: 5, N: 14}, {Kind: 5}, {Kind: 6}, {Kind: -1}, {Kind: 99, N: 1}, {N: 1}, {S: "a"},
			integer(api.MaxNumber + 1), integer(-api.MaxNumber - 1), integer(math.MinInt), {Kind: 1, S: "1"}, boolean(2), boolean(-1),
			{Kind: 2, N: 1, S: "true"}, {Kind: 3, N: 1}, text("\n"), text("\x7f"), text("é"), text(strings.Repeat("~", 41)), {Kind: 4, N: 1},
		},
	}
}

// allValues in one list, Known or not.
func allValues() []api.Value {
	var all []api.Value
	for _, kind := range []int{0, api.Int, api.Bool, api.Text} {
		all = append(all, values()[kind]...)
	}
	return all
}

// TestFactsOne: each field with each value and each key (P12.5).
func TestFactsOne(t *testing.T) {
	own := map[string]int{"a": api.Int, "yes": api.Bool, "s": api.Text}
	for kind, list := range values() {
		for _, v := range list {
			for _, f := range some().Fields {
				want := api.ErrType
				switch {
				case own[f.Name] == 0:
					want = api.ErrKind
				case own[f.Name] == kind:
					want = api.OK
				}
				testFacts(t, some(), []api.Fact{told(f.Name, v)}, want)
				testFacts(t, api.Form{Fields: []api.Field{f}}, []api.Fact{told(f.Name, v)}, want)
				if want == api.OK {
					want = api.ErrForm
				}
				for _, key := range allValues()[1:] { // all but the zero value
					testFacts(t, some(), []api.Fact{{Name: f.Name, Key: key, Has: v}}, want)
				}
			}
			for _, name := range []string{"", "none", "A", "aa", "if", "a ", "ye", "p", "p1"} { // pages have other names
				testFacts(t, some(), []api.Fact{told(name, v)}, api.ErrNone)
				testFacts(t, some(), []api.Fact{{Name: name, Key: v, Has: v}}, api.ErrNone)
			}
		}
	}
}

// TestFacts: several facts, valid or not (P12.5).
func TestFacts(t *testing.T) {
	a, yes, s := told("a", integer(4)), told("yes", boolean(1)), told("s", text("x"))
	keyed, again, wrong := api.Fact{Name: "a", Key: text("x"), Has: integer(4)}, told("a", integer(5)), told("a", boolean(1))
	for want, lists := range map[api.Errno][][]api.Fact{
		api.OK:       {nil, {}, {a}, {a, yes, s}, {s, a, yes}, {yes, s}, {told("a", integer(0))}, []api.Fact{a, a}[:1]},
		api.ErrNone:  {{{}}, {told("b2", integer(4))}, {a, yes, told("none", integer(1))}, {told("p", integer(1)), a, a}, {a, {Key: text("x")}, again}},
		api.ErrKind:  {{told("b", integer(4))}, {a, told("c", text("x"))}, {told("d", boolean(1)), wrong}, {s, {Name: "e", Key: text("x"), Has: s.Has}}},
		api.ErrType:  {{wrong}, {a, wrong}, {yes, a, told("s", api.Value{})}, {{Name: "a", Key: text("x")}}, {a, {Name: "a", Key: text("x")}}, {{Name: "a"}, a, a}},
		api.ErrForm:  {{keyed}, {yes, keyed}, {a, keyed}, {a, yes, keyed, a}, {keyed, a, a}, {keyed, wrong}, {{Name: "s", Key: api.Value{N: 1}, Has: s.Has}}},
		api.ErrTwice: {{a, a}, {a, again}, {again, a}, {a, yes, s, yes}, {a, a, wrong}, {yes, a, s, s, keyed}, {a, yes, again}, {s, s, {}}},
	} {
		for _, l := range lists {
			testFacts(t, some(), l, want)
			testFacts(t, api.Form{Fields: some().Fields}, l, want)
		}
	}
}

// TestFactsKey: each part of the Key is zero (P12.5).
func TestFactsKey(t *testing.T) {
	for _, key := range append(allValues(), api.Value{Kind: math.MinInt}, api.Value{N: math.MaxInt}, api.Value{S: "\x00"}) {
		want := api.ErrForm
		if key.Kind == 0 && key.N == 0 && key.S == "" {
			want = api.OK
		}
		for _, f := range []api.Fact{told("a", integer(4)), told("yes", boolean(0)), told("s", text(""))} {
			f.Key = key
			testFacts(t, some(), []api.Fact{f}, want)
		}
	}
}

// TestFactsMany: all lists of up to four of several facts, with what is wrong
// with each by itself (P12.5).
func TestFactsMany(t *testing.T) {
	type part struct {
		f     api.Fact
		wrong api.Errno
	}
	all := []part{
		{told("a", integer(4)), api.OK}, {told("a", integer(-1)), api.OK}, {told("yes", boolean(0)), api.OK}, {told("s", text("a")), api.OK},
		{api.Fact{Name: "a", Key: integer(1), Has: integer(1)}, api.ErrForm}, {api.Fact{Name: "s", Key: text("a"), Has: text("a")}, api.ErrForm},
		{told("a", text("a")), api.ErrType}, {api.Fact{Name: "yes", Key: boolean(1)}, api.ErrType}, {told("s", api.Value{Kind: 4}), api.ErrType},
		{told("c", text("a")), api.ErrKind}, {told("b", integer(1)), api.ErrKind}, {told("z", integer(1)), api.ErrNone}, {api.Fact{}, api.ErrNone},
	}
	lists := [][]part{nil}
	for i := 0; i < len(lists); i++ {
		var l []api.Fact
		want := api.OK
		for _, p := range lists[i] {
			twice := slices.ContainsFunc(l, func(f api.Fact) bool { return f.Name == p.f.Name })
			if want == api.OK {
				want = p.wrong
			}
			if want == api.OK && twice {
				want = api.ErrTwice
			}
			l = append(l, p.f)
		}
		testFacts(t, some(), l, want)
		for _, p := range all {
			if len(l) < 4 {
				lists = append(lists, append(slices.Clip(lists[i]), p))
			}
		}
	}
}

// TestFactsInvalid: the form need not be valid, and the first field with a name
// counts (P12.5).
func TestFactsInvalid(t *testing.T) {
	a, b := told("a", integer(4)), told("b", text("x"))
	for _, forms := range []map[api.Errno][]api.Form{wrongFields(), wrongPages()} {
		for _, list := range forms {
			for _, f := range list {
				f.Fields = append([]api.Field{input("a", api.Int), input("b", api.Text)}, f.Fields...)
				testFacts(t, f, nil, api.OK)
				testFacts(t, f, []api.Fact{a, b}, api.OK)
				testFacts(t, f, []api.Fact{b, a, b}, api.ErrTwice)
			}
		}
	}
	testFacts(t, api.Form{}, nil, api.OK)
	testFacts(t, api.Form{}, []api.Fact{a}, api.ErrNone)
	testFacts(t, api.Form{Pages: some().Pages}, []api.Fact{a}, api.ErrNone)
	testFacts(t, api.Form{Fields: some().Fields[:1]}, []api.Fact{a}, api.ErrNone) // what is in unused capacity does not count
	for want, lines := range map[api.Errno][]string{
		api.OK: {"input a int", "input a text", "formula a int"}, api.ErrType: {"input a text", "input a int"}, api.ErrKind: {"lookup a int", "input a int"},
	} {
		testFacts(t, form(lines...), []api.Fact{a}, want)
	}
	for _, name := range []string{"", "if", "A b", "\xff", strings.Repeat("a", 99)} {
		f := api.Form{Fields: []api.Field{input(name, api.Int), input("a", 99), {Name: "b", Kind: 99, Type: api.Int}}}
		testFacts(t, f, []api.Fact{told(name, integer(1))}, api.OK)
		testFacts(t, f, []api.Fact{told(name, integer(1)), told(name, integer(2))}, api.ErrTwice)
		testFacts(t, f, []api.Fact{told(name, integer(1)), told("a", api.Value{Kind: 99})}, api.ErrType)
		testFacts(t, f, []api.Fact{told(name, integer(1)), told("b", integer(1))}, api.ErrKind)
	}
}

// TestFactsLarge: long lists of fields and of facts (P12.5).
func TestFactsLarge(t *testing.T) {
	f := numbered(1 << 17)
	var l []api.Fact
	for i := range f.Fields {
		l = append(l, told(f.Fields[len(f.Fields)-1-i].Name, integer(i)))
	}
	testFacts(t, f, l, api.OK)
	testFacts(t, f, append(slices.Clip(l), l[0]), api.ErrTwice)
	testFacts(t, f, append(slices.Clip(l), l[len(l)-1]), api.ErrTwice)
	testFacts(t, f, append(slices.Clip(l), told("z", integer(1))), api.ErrNone)
	testFacts(t, api.Form{Fields: f.Fields[1:]}, l, api.ErrNone)
	testFacts(t, f, slices.Repeat(l[:1], 1<<17), api.ErrTwice)
	testFacts(t, some(), l, api.ErrNone)
}

// TestArguments: arguments stay as they are, by each call.
func TestArguments(t *testing.T) {
	f, twice := roomyForm(some()), roomyForm(and(some(), "page z: a"))
	facts := roomyList([]api.Fact{told("a", integer(4)), told("s", text("x"))}, told("unused", integer(1)))
	before, beforeTwice, beforeFacts := wholeForm(f), wholeForm(twice), wholeList(facts)
	for _, call := range []func(){
		func() { Check(f) }, func() { Check(twice) }, func() { Inputs(f) }, func() { Inputs(twice) }, func() { Free(f) }, func() { Free(twice) },
		func() { Copy(f) }, func() { Copy(twice) }, func() { Facts(f, facts) }, func() { Facts(twice, facts[:1]) }, func() { Facts(f, facts[:3]) },
	} {
		call()
		if !reflect.DeepEqual(wholeForm(f), before) || !reflect.DeepEqual(wholeForm(twice), beforeTwice) || !slices.Equal(wholeList(facts), beforeFacts) {
			t.Fatalf("the arguments %s, %s, %s changed", shown(f), shown(twice), shownFacts(facts))
		}
	}
}

// TestResults: nothing is kept between calls, and the lists are new memory
// (P12.2, P12.3).
func TestResults(t *testing.T) {
	f, twice := roomyForm(some()), roomyForm(and(some(), "page z: a"))
	facts := roomyList([]api.Fact{told("a", integer(4)), told("s", text("x"))}, told("unused", integer(1)))
	own, found := places{}, places{}
	for range 3 {
		testForm(t, f, api.OK, []int{1, 3, 6}, []string{"b", "d", "s"})
		testWrong(t, twice, api.ErrTwice)
		testFacts(t, f, facts, api.OK)
		testFacts(t, f, facts[:3], api.ErrNone)
		testFacts(t, twice, facts[:1], api.OK)
		inputs, _ := Inputs(f)
		free, _ := Free(f)
		ofList(found, inputs)
		ofList(found, free)
		inputs[0], free[0] = 99, "other" // this changes no other result
	}
	ofForm(own, f)
	for place, n := range found {
		if n > 1 || own[place] > 0 {
			t.Fatalf("results share memory")
		}
	}
}
