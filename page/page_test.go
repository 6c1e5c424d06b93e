package page

import (
	"fmt"
	"math"
	"reflect"
	"slices"
	"strconv"
	"strings"
	"testing"

	"lychway/api"
	"lychway/expr"
)

// ref, number, boolean and text are formulas of one node, and node has Args.
func ref(name string) api.Expr            { return api.Expr{Op: api.Ref, Name: name} }
func number(n int) api.Expr               { return constant(api.Value{Kind: api.Int, N: n}) }
func boolean(n int) api.Expr              { return constant(api.Value{Kind: api.Bool, N: n}) }
func text(s string) api.Expr              { return constant(api.Value{Kind: api.Text, S: s}) }
func constant(v api.Value) api.Expr       { return api.Expr{Op: api.Const, V: v} }
func node(op int, l ...api.Expr) api.Expr { return api.Expr{Op: op, Args: l} }

// read is the formula of a notation, which must be valid.
func read(s string) api.Expr {
	x, at, e := expr.Parse(s)
	if e != api.OK {
		panic("Parse of " + s + ": error " + strconv.Itoa(int(e)) + " at " + strconv.Itoa(at))
	}
	return x
}

// pages, each with its Name, its Fields and its Skip: "p: a, b; a = 0".
func pages(list ...string) []api.Page {
	var l []api.Page
	for _, s := range list {
		name, rest, _ := strings.Cut(s, ": ")
		on, skip, skippable := strings.Cut(rest, "; ")
		p := api.Page{Name: name}
		if on != "" {
			p.Fields = strings.Split(on, ", ")
		}
		if skippable {
			p.Skip = read(skip)
		}
		l = append(l, p)
	}
	return l
}

// skipped is a page without fields that has such a Skip.
func skipped(name string, skip api.Expr) api.Page { return api.Page{Name: name, Skip: skip} }

// shown are the first pages as text, each with its first fields; a Skip that
// is not valid is shown without its Args.
func shown(l ...api.Page) string {
	var list []string
	for _, p := range l[:min(len(l), 20)] {
		s := strconv.Quote(p.Name) + ": " + strconv.Itoa(len(p.Fields)) + " fields"
		for _, name := range p.Fields[:min(len(p.Fields), 20)] {
			s += ", " + strconv.Quote(name)
		}
		skip, e := expr.Print(p.Skip)
		if e != api.OK {
			nodes, depth := expr.Size(p.Skip)
			skip = fmt.Sprint("Op ", p.Skip.Op, ", ", p.Skip.V, ", ", strconv.Quote(p.Skip.Name), ", ", nodes, " nodes, depth ", depth)
		}
		list = append(list, s+"; "+skip)
	}
	return strconv.Itoa(len(l)) + " pages [" + strings.Join(list, " | ") + "]"
}

// tall is a formula with n Nots above the last node.
func tall(n int, last api.Expr) api.Expr {
	for range n {
		last = node(api.Not, last)
	}
	return last
}

// all of n equal formulas, without much depth.
func all(n int, x api.Expr) api.Expr {
	if n == 1 {
		return x
	}
	return node(api.And, all(n/2, x), all(n-n/2, x))
}

// fields of all kinds and types, not in the order of their names.
func fields() []api.Field {
	return []api.Field{
		{Name: "b", Kind: api.Formula, Type: api.Int, Source: read("a + 1")}, {Name: "a", Kind: api.Input, Type: api.Int},
		{Name: "c", Kind: api.Lookup, Type: api.Text, Source: read("b")}, {Name: "yes", Kind: api.Input, Type: api.Bool},
		{Name: "d", Kind: api.Formula, Type: api.Bool, Source: read("not yes")}, {Name: "s", Kind: api.Input, Type: api.Text},
	}
}

// some pages, which are valid with these fields, but not in the order of their
// names; b is on none of them.
func some() []api.Page {
	return pages("p2: a, c", "p1: ", "q: s; yes", "p: d, yes; a < 3 and c = s")
}

// Strings that are no names, with what is wrong with each.
var badNames = map[string]api.Errno{
	"": api.ErrSize, "aaaaaaaaaaa": api.ErrSize, "A1234567890": api.ErrSize, "A": api.ErrForm, "1": api.ErrForm, "a b": api.ErrForm,
	"a ": api.ErrForm, "if": api.ErrForm, "true": api.ErrForm, "len": api.ErrForm, "a_b": api.ErrForm, "é": api.ErrForm, "p\n": api.ErrForm,
}

// badSkips are formulas that are not valid, and what is wrong with each.
func badSkips() map[api.Errno][]api.Expr {
	return map[api.Errno][]api.Expr{
		api.ErrSize: {
			all(31, ref("yes")), tall(60, ref("yes")), node(0, make([]api.Expr, 60)...), tall(1<<16-1, ref("yes")), {Args: make([]api.Expr, 1<<20)},
		},
		api.ErrRange: {tall(12, ref("yes")), tall(59, boolean(1)), node(0, tall(11, ref("yes")))},
		api.ErrKind: {
			{Op: -1}, {Op: 19}, {Op: math.MaxInt}, {Name: "a"}, {Name: " "}, {V: api.Value{Kind: api.Int}}, {V: api.Value{Kind: -1}},
			{V: api.Value{N: 1}}, {V: api.Value{N: math.MinInt}}, {V: api.Value{S: "a"}}, {V: api.Value{S: "\x00"}}, {Args: []api.Expr{{}}},
			{V: boolean(1).V}, node(0, ref("yes")), node(api.And, ref("yes"), api.Expr{}), {Args: []api.Expr{boolean(0), {Op: api.Const}}},
		},
		api.ErrForm: {
			{Op: api.Const}, {Op: api.Ref}, node(api.Not), node(api.And, ref("yes")), ref("A"), ref("if"), ref("aaaaaaaaaaa"), boolean(2),
			node(api.Not, ref("")), constant(api.Value{Kind: api.Pending}), constant(api.Value{Kind: api.Fault, N: 5}), {Op: api.Const, Name: "yes"},
			{Op: api.Ref, Name: "yes", V: boolean(1).V}, {Op: api.Ref, Name: "yes", Args: []api.Expr{ref("yes")}}, {Op: api.Const, V: boolean(1).V, Name: "a"},
			node(api.Less, number(-1), ref("a")), node(api.Same, text("\n"), ref("c")), node(api.Same, text(strings.Repeat("a", 41)), ref("c")),
		},
	}
}

// testNever tests whether a page with such a Skip is never skipped.
func testNever(t *testing.T, skip api.Expr, want bool) {
	t.Helper()
	for _, p := range []api.Page{{}, {Name: "p"}, {Name: "if"}, {Fields: []string{"a"}}, {Name: "p", Fields: []string{"", "a", "a"}}, {Fields: []string{}}} {
		p.Skip = skip
		if Never(p) != want {
			t.Errorf("Never(%s) = %v, want %v", shown(p), !want, want)
		}
	}
}

// TestNever: each part of Skip is zero, or the page can be skipped, even if
// Skip is not valid or is never true (P11.1).
func TestNever(t *testing.T) {
	for _, list := range [][]api.Expr{nil, {}, make([]api.Expr, 0, 9), []api.Expr{ref("a"), ref("b")}[:0]} {
		testNever(t, api.Expr{Args: list}, true)
	}
	for _, list := range badSkips() {
		for _, x := range list {
			testNever(t, x, false)
		}
	}
	for _, s := range []string{"true", "false", "0", `""`, "a", "not a", "1 < 0", "a and b", "1 + true"} {
		testNever(t, read(s), false)
	}
}

// testFind tests which place a page has; none is -1.
func testFind(t *testing.T, l []api.Page, name string, want int) {
	t.Helper()
	i, e := Find(l, name)
	if want < 0 && (i != 0 || e != api.ErrNone) || want >= 0 && (i != want || e != api.OK) {
		t.Errorf("Find(%s, %q) = %d, %d, want %d", shown(l...), name, i, e, want)
	}
}

// TestFind: the place of the first page with a name, if there is one (P11.1).
func TestFind(t *testing.T) {
	for i, p := range some() {
		testFind(t, some(), p.Name, i)
		testFind(t, some()[i:], p.Name, 0)
		testFind(t, some()[:i], p.Name, -1)
		testFind(t, some()[i+1:], p.Name, -1)
		testFind(t, append(some(), some()...), p.Name, i)
		testFind(t, append(some()[i+1:], some()...), p.Name, len(some())-1)
	}
	for _, name := range []string{"", "z", "P", "p3", "p22", "p2 ", " p2", "pp", "p\x00", "if", "a", "yes"} { // some are those of fields
		testFind(t, some(), name, -1)
	}
	testFind(t, nil, "p", -1)
	testFind(t, nil, "", -1)
	testFind(t, []api.Page{}, "p", -1)
	testFind(t, some()[:0], "p2", -1) // what is in unused capacity does not count
}

// TestFindInvalid: pages that are not valid are found, too (P11.1).
func TestFindInvalid(t *testing.T) {
	l := []api.Page{
		{Name: "x"}, {}, {Name: "if"}, {Name: "a b", Fields: []string{"none", "none"}}, skipped("p", api.Expr{Op: 99}), {Name: "x", Fields: []string{"a"}},
		{Name: strings.Repeat("a", 99)}, {Name: "\xff"}, {Name: "p"},
	}
	for i, p := range l {
		testFind(t, l, p.Name, []int{0, 1, 2, 3, 4, 0, 6, 7, 4}[i])
	}
	testFind(t, l, strings.Repeat("a", 98), -1)
	testFind(t, l, "\xfe", -1)
	many := slices.Repeat([]api.Page{{Name: "p"}, {Name: "q"}}, 1<<17)
	testFind(t, many, "q", 1)
	testFind(t, many, "r", -1)
	testFind(t, append(many, api.Page{Name: "r"}), "r", 1<<18)
}

// testCheck tests what is wrong with pages of some fields.
func testCheck(t *testing.T, l []api.Page, of []api.Field, want api.Errno) {
	t.Helper()
	if e := Check(l, of); e != want {
		t.Errorf("Check(%s, %d fields) = %d, want %d", shown(l...), len(of), e, want)
	}
}

// TestCheck: pages that are valid, and what can be wrong (P11.2).
func TestCheck(t *testing.T) {
	for want, lists := range map[api.Errno][][]api.Page{
		api.OK: {
			some(), some()[:1], some()[3:], pages("p: "), pages("a: a", "b: b", "c: c"), pages("p: yes, s, d, c, b, a"), pages("p: s", "q: a", "r: yes"),
			pages("p: ", "q: ", "r: "), pages("p: ; true"), pages("p: ; false"), pages("p: ; yes"), pages("p: ; d"), pages("p: a; not yes"),
			pages("p: ; c = s"), pages("p: yes; yes"), pages("p: ; yes", "q: yes"), pages("p: yes", "q: ; yes"), // on any page, or on none
			pages("p: a; if(yes, a < 3, len(c) != b)"), pages("p: ; 1 / 0 = 1"), pages("p: a; a < 3", "q: ; a < 3"), pages("p: ", "pp: "),
			{{Name: "p", Fields: []string{}, Skip: api.Expr{Args: []api.Expr{}}}}, {{Name: "p", Fields: []string{"a", "b", "a"}[:2]}}, pages("abcdefghij: "),
			{skipped("p", tall(11, ref("yes")))}, {skipped("p", tall(1, all(29, ref("yes"))))},
		},
		api.ErrSize: {nil, {}, some()[:0], {{}}, pages("aaaaaaaaaaa: a"), pages("p: ", ": "), append(some(), some()[:3]...)},
		api.ErrForm: {pages("A: "), pages("if: a"), pages("p: a", "1: "), pages("p : "), pages("p: ", "p q: ")},
		api.ErrNone: {
			pages("p: z"), pages("p: a, z"), pages("p: z, a"), pages("p: a", "q: b, z, c"), pages("p: ye"), pages("p: yess"), pages("p: p"), pages("p: A"),
			{{Name: "p", Fields: []string{""}}}, {{Name: "p", Fields: []string{"a", ""}}}, pages("p: a "), pages("p: if"), pages("p: z, z"),
			pages("p: ; z"), pages("p: z; z"), pages("p: ; p"), pages("p: ", "q: a; a < z"), pages("p: a; if(true, yes, z)"), pages("p: ; true + z = 1"),
		},
		api.ErrTwice: {
			pages("p: ", "p: "), pages("p: a; yes", "q: ", "p: b; d"), pages("p: ", "q: ", "q: "), append(some(), some()[0]), append(some(), some()[3]),
			pages("p: a, a"), pages("p: a, b, a"), pages("p: a, b, b"), pages("p: a", "q: a"), pages("p: a, b", "q: c, b"), pages("p: b", "q: c", "r: yes, b"),
			pages("p: a; yes", "q: a; not yes"), pages("p: yes, c, s", "q: ", "r: s"), pages("p: a, a, a"), pages("p: s", "q: d", "r: d, s"),
		},
		api.ErrType: {
			pages("p: ; a"), pages("p: a; 1"), pages("p: ; c"), pages(`p: ; ""`), pages("p: ; len(s)"), pages("p: ; -yes"), pages("p: ; a = s"),
			pages("p: ; yes and a"), pages("p: ; if(a, yes, yes)"), pages("p: ; if(yes, 1, 2)"), pages("p: a; yes", "q: b; b"),
		},
	} {
		for _, l := range lists {
			testCheck(t, l, fields(), want)
		}
	}
}

// TestCheckSkip: what is wrong with a Skip by itself, of any page (P11.2).
func TestCheckSkip(t *testing.T) {
	for want, list := range badSkips() {
		for _, x := range list {
			testCheck(t, []api.Page{skipped("r", x)}, fields(), want)
			testCheck(t, []api.Page{skipped("r", x)}, nil, want)
			testCheck(t, append(some(), skipped("r", x)), fields(), want)
			testCheck(t, append(some(), api.Page{Name: "r", Fields: []string{"b"}, Skip: x}), fields(), want)
			testCheck(t, append([]api.Page{skipped("r", x)}, some()...), fields(), want)
		}
	}
}

// TestCheckOrder: of several things that are wrong, the first one counts: all
// that is wrong with a page comes before the next page (P11.2).
func TestCheckOrder(t *testing.T) {
	// Pages that are wrong in several ways; for some, the first one needs a valid page before them.
	list := []struct {
		p      api.Page
		wrong  api.Errno
		behind bool
	}{
		{api.Page{Name: "aaaaaaaaaaa", Fields: []string{"z", "s", "s"}, Skip: api.Expr{Op: 99}}, api.ErrSize, false},
		{api.Page{Name: "if", Fields: []string{"z", "s", "s"}, Skip: api.Expr{Op: 99}}, api.ErrForm, false},
		{api.Page{Name: "p", Fields: []string{"z", "s", "s"}, Skip: api.Expr{Op: 99}}, api.ErrTwice, true},
		{api.Page{Name: "q", Fields: []string{"z", "s", "s"}, Skip: api.Expr{Op: 99}}, api.ErrNone, false},
		{api.Page{Name: "q", Fields: []string{"s", "s", "z"}, Skip: read("z + 1")}, api.ErrTwice, false},
		{api.Page{Name: "q", Fields: []string{"a", "z"}, Skip: read("z + 1")}, api.ErrTwice, true},
		{api.Page{Name: "q", Fields: []string{"z", "a"}, Skip: read("1")}, api.ErrNone, false},
		{api.Page{Name: "q", Fields: []string{"s"}, Skip: tall(60, ref("Z"))}, api.ErrSize, false},
		{api.Page{Name: "q", Fields: []string{"s"}, Skip: tall(12, ref("Z"))}, api.ErrRange, false},
		{api.Page{Name: "q", Fields: []string{"s"}, Skip: node(api.Add, ref("z"), api.Expr{})}, api.ErrKind, false},
		{api.Page{Name: "q", Fields: []string{"s"}, Skip: node(api.Add, ref("z"), ref("Z"))}, api.ErrForm, false},
		{api.Page{Name: "q", Fields: []string{"s"}, Skip: read("z + true")}, api.ErrNone, false},
		{api.Page{Name: "q", Fields: []string{"s"}, Skip: read("1 & z < 2 + true")}, api.ErrNone, false},
		{api.Page{Name: "q", Fields: []string{"s"}, Skip: read("-true < z")}, api.ErrType, false},
	}
	valid := pages("p: a; yes")[0]
	for _, c := range list {
		testCheck(t, []api.Page{valid, c.p}, fields(), c.wrong)
		for _, next := range list {
			testCheck(t, []api.Page{valid, c.p, next.p}, fields(), c.wrong)
			testCheck(t, []api.Page{valid, {Name: "r"}, c.p, {Name: "r"}, next.p}, fields(), c.wrong)
		}
		testCheck(t, append([]api.Page{valid}, slices.Repeat([]api.Page{c.p}, 6)...), fields(), api.ErrSize)
		if !c.behind {
			testCheck(t, []api.Page{c.p, valid}, fields(), c.wrong)
		}
	}
}

// TestCheckLimits: as many pages as there can be, and more (P11.2).
func TestCheckLimits(t *testing.T) {
	most := pages("p1: a", "p2: b; yes", "p3: c", "p4: yes", "p5: d; d", "p6: s; yes")
	for n := range len(most) {
		testCheck(t, most[:n+1], fields(), api.OK)
	}
	last := slices.Clone(most)
	for want, list := range map[api.Errno][]api.Page{
		api.OK: pages("p7: s", "p: ; d"), api.ErrForm: pages("P: "), api.ErrTwice: pages("p1: s", "p5: s", "p: a", "p: d"), api.ErrNone: pages("p: z"),
		api.ErrType: pages("p: s; s"), api.ErrKind: {skipped("p", api.Expr{Op: 99})}, api.ErrSize: {{}, skipped("p", tall(60, ref("yes")))},
	} {
		for _, p := range list {
			last[5] = p
			testCheck(t, last, fields(), want)
			testCheck(t, append(slices.Clone(most), p), fields(), api.ErrSize)
			testCheck(t, append([]api.Page{p}, most...), fields(), api.ErrSize)
		}
	}
	testCheck(t, make([]api.Page, 1<<18), fields(), api.ErrSize)
	testCheck(t, nil, nil, api.ErrSize)
	testCheck(t, pages("p: "), nil, api.OK)
	testCheck(t, pages("p: ; true"), []api.Field{}, api.OK)
	testCheck(t, pages("p: a"), nil, api.ErrNone)
	testCheck(t, pages("p: a"), fields()[:1], api.ErrNone) // what is in unused capacity does not count
	testCheck(t, pages("p: ; yes"), nil, api.ErrNone)
}

// TestCheckInvalid: the fields need not be valid, nor few (P11.2).
func TestCheckInvalid(t *testing.T) {
	l := []api.Field{
		{Name: "a", Kind: 99, Type: 77}, {}, {Name: "if", Kind: -1}, {Name: "A b", Type: api.Bool}, {Name: "a", Type: api.Bool}, {Name: "\xff"},
		{Name: strings.Repeat("b", 99), Type: api.Fault}, {Name: "b", Type: api.Bool, Source: read("none")}, {Name: "b", Type: api.Int},
		{Name: "c", Type: 77, Source: api.Expr{Op: 99}}, {Name: "d", Kind: api.Formula, Type: api.Bool, Source: read("1")},
	}
	on := func(skip string, names ...string) api.Page {
		p := pages("p: ; " + skip)[0]
		p.Fields = names
		return p
	}
	for want, list := range map[api.Errno][]api.Page{
		api.OK: {
			on("true", "a", "", "if", "A b", "\xff", strings.Repeat("b", 99), "b", "c", "d"), on("a = c"), on("b"), on("d and b"), on("not d", "d"),
		},
		api.ErrNone:  {on("true", "z"), on("true", "\xfe"), on("true", strings.Repeat("b", 98)), on("true", "A"), on("z")},
		api.ErrTwice: {on("true", "a", "a"), on("true", "", ""), on("true", "if", "a", "if"), on("true", "\xff", "\xff"), on("true", "b", "b")},
		api.ErrType:  {on("a"), on("c"), on("a < 1"), on("b = 1"), on("a = b"), on("d = 1")},
	} {
		for _, p := range list {
			testCheck(t, []api.Page{p}, l, want)
			testCheck(t, []api.Page{{Name: "q"}, p}, l, want)
		}
	}
	testCheck(t, []api.Page{on("true", "b"), {Name: "q", Fields: []string{"b"}}}, l, api.ErrTwice) // two fields, but one name
	testCheck(t, []api.Page{on("true", "b"), {Name: "if"}}, l, api.ErrForm)                        // pages need a name that is valid
}

// TestCheckLarge: long lists of fields, and of names on pages (P11.2).
func TestCheckLarge(t *testing.T) {
	var l []api.Field
	var all []string
	for i := range 1 << 18 {
		all = append(all, strconv.Itoa(i))
		l = append(l, api.Field{Name: all[i], Type: api.Bool})
	}
	half := 1 << 17
	l = append(l, api.Field{Name: "a", Type: api.Bool})
	testCheck(t, []api.Page{{Name: "p", Fields: all, Skip: ref("a")}}, l, api.OK)
	testCheck(t, []api.Page{{Name: "p", Fields: all[half:]}, {Name: "q", Fields: all[:half]}}, l, api.OK)
	testCheck(t, []api.Page{{Name: "p", Fields: all[half:]}, {Name: "q", Fields: all[:half+1]}}, l, api.ErrTwice)
	testCheck(t, []api.Page{{Name: "p", Fields: append(all[:half:half], all[0])}}, l, api.ErrTwice)
	testCheck(t, []api.Page{{Name: "p", Fields: append(all[:half:half], "z", all[0])}}, l, api.ErrNone)
	testCheck(t, []api.Page{{Name: "p", Fields: all}}, l[1:], api.ErrNone)
	testCheck(t, []api.Page{{Name: "p", Fields: all[1:], Skip: ref("a")}}, l[1:], api.OK)
}

// sample is a page, with what is wrong with its Name and with its Skip.
type sample struct {
	p                   api.Page
	wrongName, wrongEnd api.Errno
}

// samples of pages.
func samples() []sample {
	var l []sample
	for _, s := range []string{
		"p: ", "p: a", "p: yes; yes", "q: d; d", "q: b, a", "q: ; not yes", "r: c, s", "r: a, a; d",
		"s: z", "s: d, z; yes", "s: z, d, d", "t: b", "t: d, b; true", "u: b, s", "v: c",
	} {
		l = append(l, sample{p: pages(s)[0]})
	}
	for want, list := range map[api.Errno][]string{
		api.ErrNone: {"p: c; z", "q: ; z + true = 2"}, api.ErrType: {"q: a; a", "r: ; yes < 1", "t: z; 1", `u: yes; ""`},
	} {
		for _, s := range list {
			l = append(l, sample{p: pages(s)[0], wrongEnd: want})
		}
	}
	for name, want := range map[string]api.Errno{"": api.ErrSize, "if": api.ErrForm} {
		l = append(l, sample{p: api.Page{Name: name, Fields: []string{"a", "z"}}, wrongName: want})
	}
	return append(l,
		sample{p: api.Page{Name: "p", Fields: []string{"s", "b"}, Skip: api.Expr{Op: 99}}, wrongEnd: api.ErrKind},
		sample{p: skipped("t", tall(12, ref("yes"))), wrongEnd: api.ErrRange}, sample{p: skipped("u", ref("A")), wrongEnd: api.ErrForm},
	)
}

// allWrong is what is wrong with the pages of samples, or OK, in the order in
// which it counts.
func allWrong(list []sample) []api.Errno {
	if len(list) == 0 {
		return []api.Errno{api.ErrSize}
	}
	var wrong []api.Errno
	var called, on []string
	for _, s := range list {
		wrong = append(wrong, s.wrongName)
		if slices.Contains(called, s.p.Name) {
			wrong = append(wrong, api.ErrTwice)
		}
		called = append(called, s.p.Name)
		for _, name := range s.p.Fields {
			if name == "z" {
				wrong = append(wrong, api.ErrNone)
			}
			if slices.Contains(on, name) {
				wrong = append(wrong, api.ErrTwice)
			}
			on = append(on, name)
		}
		wrong = append(wrong, s.wrongEnd)
	}
	return wrong
}

// TestCheckMany: all lists of up to three samples (P11.2).
func TestCheckMany(t *testing.T) {
	lists, found := [][]sample{nil}, map[api.Errno]int{}
	for i := 0; i < len(lists); i++ {
		list, l, want := lists[i], []api.Page(nil), api.OK
		for _, s := range list {
			l = append(l, s.p)
		}
		for _, e := range allWrong(list) {
			if want == api.OK {
				want = e
			}
		}
		testCheck(t, l, fields(), want)
		found[want]++
		for _, s := range samples() {
			if len(list) < 3 {
				lists = append(lists, append(slices.Clone(list), s))
			}
		}
	}
	for _, e := range []api.Errno{api.OK, api.ErrTwice, api.ErrNone, api.ErrType, api.ErrSize, api.ErrKind, api.ErrForm, api.ErrRange} {
		if found[e] < 200 {
			t.Errorf("%d lists are too much alike: %v", len(lists), found)
		}
	}
}

// testOf tests on which page a field is; none is -1.
func testOf(t *testing.T, l []api.Page, name string, want int) {
	t.Helper()
	i, e := Of(l, name)
	if want < 0 && (i != 0 || e != api.ErrNone) || want >= 0 && (i != want || e != api.OK) {
		t.Errorf("Of(%s, %q) = %d, %d, want %d", shown(l...), name, i, e, want)
	}
}

// TestOf: the first page that contains a field, if there is one (P11.3).
func TestOf(t *testing.T) {
	for i, p := range some() {
		for _, name := range p.Fields {
			testOf(t, some(), name, i)
			testOf(t, some()[i:], name, 0)
			testOf(t, some()[:i], name, -1)
			testOf(t, some()[i+1:], name, -1)
			testOf(t, append(some(), some()...), name, i)
			testOf(t, append(some()[i+1:], some()...), name, len(some())-1)
		}
	}
	for _, name := range []string{"b", "", "z", "p", "q", "A", "ye", "yess", "yes ", " a", "a, c", "aa", "a\x00", "true"} {
		testOf(t, some(), name, -1)
	}
	// A page does not contain what its Skip refers to.
	testOf(t, pages("p: ; b", "q: a; b", "r: b"), "b", 2)
	testOf(t, nil, "a", -1)
	testOf(t, nil, "", -1)
	testOf(t, []api.Page{}, "a", -1)
	testOf(t, some()[:0], "a", -1)
}

// TestOfInvalid: pages that are not valid contain fields, too (P11.3).
func TestOfInvalid(t *testing.T) {
	l := []api.Page{
		{}, {Name: "if", Fields: []string{"x", "a"}[:1]}, {Fields: []string{"", "\xff"}}, {Name: "p", Fields: []string{"a", "a"}},
		{Name: "p", Fields: []string{"x", "A b"}, Skip: api.Expr{Op: 99, Name: "y"}}, {Fields: []string{"if", "a", strings.Repeat("a", 99)}},
	}
	for name, want := range map[string]int{
		"x": 1, "": 2, "\xff": 2, "a": 3, "A b": 4, "if": 5, strings.Repeat("a", 99): 5, strings.Repeat("a", 98): -1, "\xfe": -1, "y": -1, "p": -1,
	} {
		testOf(t, l, name, want)
	}
	many := slices.Repeat([]api.Page{{Fields: []string{"a"}}, {Fields: slices.Repeat([]string{"b"}, 99)}}, 1<<13)
	testOf(t, many, "b", 1)
	testOf(t, many, "c", -1)
	testOf(t, append(many, api.Page{Fields: slices.Repeat([]string{"b", "c"}, 1<<18)}), "c", 1<<14)
}

// same: are two formulas the same, be their empty lists nil or not?
func same(x, y api.Expr) bool {
	return x.Op == y.Op && x.V == y.V && x.Name == y.Name && slices.EqualFunc(x.Args, y.Args, same)
}

// samePages: are two lists of pages the same?
func samePages(a, b []api.Page) bool {
	return slices.EqualFunc(a, b, func(p, q api.Page) bool {
		return p.Name == q.Name && slices.Equal(p.Fields, q.Fields) && same(p.Skip, q.Skip)
	})
}

// roomy is a copy of a formula, with unused capacity that has something in it.
func roomy(x api.Expr) api.Expr {
	l := slices.Repeat([]api.Expr{ref("unused")}, len(x.Args)+2)
	for i, arg := range x.Args {
		l[i] = roomy(arg)
	}
	x.Args = l[:len(x.Args)]
	return x
}

// roomyPages are a copy of pages, with unused capacity like that, too.
func roomyPages(l []api.Page) []api.Page {
	all := slices.Repeat(pages("unused: unused, a; unused"), len(l)+2)
	for i, p := range l {
		list := slices.Repeat([]string{"unused"}, len(p.Fields)+2)
		copy(list, p.Fields)
		all[i] = api.Page{Name: p.Name, Fields: list[:len(p.Fields)], Skip: roomy(p.Skip)}
	}
	return all[:len(l)]
}

// whole of a formula: also what is in its unused capacity.
func whole(x api.Expr) api.Expr {
	x.Args = slices.Clone(x.Args[:cap(x.Args)])
	for i, arg := range x.Args {
		x.Args[i] = whole(arg)
	}
	return x
}

// wholePages are all of the pages, and what is in their unused capacity.
func wholePages(l []api.Page) []api.Page {
	all := slices.Clone(l[:cap(l)])
	for i, p := range all {
		all[i].Fields = slices.Clone(p.Fields[:cap(p.Fields)])
		all[i].Skip = whole(p.Skip)
	}
	return all
}

// placesOf a list in memory, with the unused ones, each with how often it is
// found.
func placesOf[T any](found map[any]int, l []T) {
	l = l[:cap(l)]
	for i := range l {
		found[&l[i]]++
	}
}

// places that the lists of a formula have.
func places(found map[any]int, x api.Expr) {
	placesOf(found, x.Args)
	for _, arg := range x.Args {
		places(found, arg)
	}
}

// placesOfPages, and of their names and formulas.
func placesOfPages(found map[any]int, l []api.Page) {
	placesOf(found, l)
	for _, p := range l[:cap(l)] {
		placesOf(found, p.Fields)
		places(found, p.Skip)
	}
}

// testCopy tests a copy of pages: it is the same, in new memory, and the pages
// stay as they are.
func testCopy(t *testing.T, l []api.Page) {
	t.Helper()
	before, own, found := wholePages(l), map[any]int{}, map[any]int{}
	placesOfPages(own, l)
	one, two := Copy(l), Copy(l)
	if !samePages(one, l) || !samePages(two, l) {
		t.Errorf("Copy(%s) = %s, and then %s", shown(l...), shown(one...), shown(two...))
	}
	placesOfPages(found, one)
	placesOfPages(found, two)
	for place, n := range found {
		if n > 1 || own[place] > 0 {
			t.Fatalf("Copy(%s) shares memory", shown(l...))
		}
	}
	if !reflect.DeepEqual(wholePages(l), before) {
		t.Errorf("Copy(%s) changed it", shown(l...))
	}
}

// TestCopy: copies of pages, valid or not (P11.4).
func TestCopy(t *testing.T) {
	twice, on := []api.Expr{ref("a"), node(api.Neg, ref("b"))}, []string{"a", "b"} // the same lists several times
	odd := []api.Page{
		{}, {Name: "if", Fields: []string{"", "\xff"}}, {Name: "\xff", Fields: on, Skip: api.Expr{Name: "a", V: api.Value{Kind: 9, N: -1, S: "\n"}, Args: twice}},
		{Fields: on, Skip: node(api.Add, twice...)}, {Fields: on[:1], Skip: node(api.Sub, node(0, twice...), node(77, twice...))}, {Fields: make([]string, 1<<12)},
		{Name: "if", Fields: on, Skip: tall(99, node(0))}, {Skip: node(api.If, make([]api.Expr, 99)...)}, {Fields: []string{}, Skip: api.Expr{Args: []api.Expr{}}},
	}
	lists := [][]api.Page{nil, {}, some(), some()[1:3], odd, append(some(), some()...), make([]api.Page, 1<<12)}
	for _, l := range lists {
		testCopy(t, l)
		testCopy(t, roomyPages(l))
	}
	for i, p := range append(some(), odd...) {
		testCopy(t, []api.Page{p, p})
		testCopy(t, append(some(), odd...)[:i])
	}
	large := []api.Page{skipped("p", tall(1<<16-1, ref("a"))), skipped("q", all(1<<15, ref("a")))}
	if l := Copy(large); !samePages(l, large) || &l[0].Skip.Args[0] == &large[0].Skip.Args[0] {
		t.Errorf("Copy of a large formula is another one, or shares memory")
	}
}

// TestCopyChanged: a change to a copy changes nothing else (P11.4).
func TestCopyChanged(t *testing.T) {
	l := some()
	result := Copy(l)
	for i := range result {
		p := &result[i]
		for j := range p.Fields {
			p.Fields[j] = "other"
		}
		for j := range p.Skip.Args {
			p.Skip.Args[j] = ref("other")
		}
		p.Name, p.Fields, p.Skip.Args, p.Skip.Op = "other", append(p.Fields, "other"), append(p.Skip.Args, ref("other")), 9
	}
	if !samePages(l, some()) || !samePages(Copy(l), some()) {
		t.Errorf("a change to a copy changed the pages: %s", shown(l...))
	}
}

// TestMemory: arguments stay as they are, and nothing is kept between calls.
func TestMemory(t *testing.T) {
	of := slices.Repeat(fields(), 2)[:len(fields())]
	for i := range some() {
		l := roomyPages(some())
		if i > 0 {
			l[i].Name = l[i-1].Name
		}
		before, wanted := wholePages(l), []api.Errno{api.OK, api.ErrTwice}[min(i, 1)]
		for range 3 {
			testNever(t, l[i].Skip, i < 2)
			testFind(t, l, l[i].Name, max(0, i-1))
			testFind(t, l, "unused", -1)
			testOf(t, l, "d", 3)
			testOf(t, l, "unused", -1)
			testCheck(t, l, of, wanted)
			testCheck(t, l[:1], of, api.OK)
		}
		if !reflect.DeepEqual(wholePages(l), before) {
			t.Errorf("the pages %s changed", shown(l...))
		}
	}
	if !reflect.DeepEqual(of[:cap(of)], slices.Repeat(fields(), 2)[:cap(of)]) {
		t.Errorf("the fields %v changed", of)
	}
}
