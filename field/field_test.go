package field

import (
	"math"
	"reflect"
	"slices"
	"strconv"
	"strings"
	"testing"

	"lychway/api"
	"lychway/expr"
)

// ref, number, boolean and text are formulas of one node, and node has Args.
func ref(name string) api.Expr            { return api.Expr{Op: api.Ref, Name: name} }
func number(n int) api.Expr               { return constant(api.Value{Kind: api.Int, N: n}) }
func boolean(n int) api.Expr              { return constant(api.Value{Kind: api.Bool, N: n}) }
func text(s string) api.Expr              { return constant(api.Value{Kind: api.Text, S: s}) }
func constant(v api.Value) api.Expr       { return api.Expr{Op: api.Const, V: v} }
func node(op int, l ...api.Expr) api.Expr { return api.Expr{Op: op, Args: l} }

// input, formula and lookup are fields, the latter two with the notation of
// their Source, which must be valid.
func input(name string, kind int) api.Field {
	return api.Field{Name: name, Kind: api.Input, Type: kind}
}
func formula(name string, kind int, source string) api.Field {
	return api.Field{Name: name, Kind: api.Formula, Type: kind, Source: read(source)}
}
func lookup(name string, kind int, source string) api.Field {
	return api.Field{Name: name, Kind: api.Lookup, Type: kind, Source: read(source)}
}

// read is the formula of a notation.
func read(s string) api.Expr {
	x, at, e := expr.Parse(s)
	if e != api.OK {
		panic("Parse of " + s + ": error " + strconv.Itoa(int(e)) + " at " + strconv.Itoa(at))
	}
	return x
}

// tall is a formula with n Negs above the last node.
func tall(n int, last api.Expr) api.Expr {
	for range n {
		last = node(api.Neg, last)
	}
	return last
}

// sum of n equal formulas, without much depth.
func sum(n int, x api.Expr) api.Expr {
	if n == 1 {
		return x
	}
	return node(api.Add, sum(n/2, x), sum(n-n/2, x))
}

// fields of all kinds and types, which are valid, but not in the order of
// their names, and refer to fields before and behind their own.
func fields() []api.Field {
	return []api.Field{
		formula("b", api.Int, "a + 1"), input("a", api.Int), lookup("c", api.Text, "b"), input("yes", api.Bool),
		formula("d", api.Bool, "yes and len(c) < e"), lookup("e", api.Int, "s & c"), input("s", api.Text),
		formula("u", api.Text, `if(d, c, "none")`), lookup("v", api.Bool, "not d"),
	}
}

// numbered are n fields whose names differ.
func numbered(n int) []api.Field {
	var l []api.Field
	for i := range n {
		l = append(l, input("a"+strconv.Itoa(i), api.Int))
	}
	return l
}

// Strings that are no names, with what is wrong with each.
var badNames = map[string]api.Errno{
	"": api.ErrSize, "aaaaaaaaaaa": api.ErrSize, "A1234567890": api.ErrSize, "A": api.ErrForm, "1": api.ErrForm, "a b": api.ErrForm,
	"a ": api.ErrForm, "if": api.ErrForm, "true": api.ErrForm, "len": api.ErrForm, "a_b": api.ErrForm, "é": api.ErrForm, "a\n": api.ErrForm,
}

// Numbers that are neither kinds of fields nor types of values; of some of
// them there are values.
var strange = []int{0, 4, 5, 6, -1, -3, 99, math.MinInt, math.MaxInt, 1 << 32, 1<<32 + 1}

// first of some errors, if there is one.
func first(list []api.Errno) api.Errno {
	for _, e := range list {
		if e != api.OK {
			return e
		}
	}
	return api.OK
}

// testFind tests which place a field has; none is -1.
func testFind(t *testing.T, l []api.Field, name string, want int) {
	t.Helper()
	i, e := Find(l, name)
	if want < 0 && (i != 0 || e != api.ErrNone) || want >= 0 && (i != want || e != api.OK) {
		t.Errorf("Find(.., %q) = %d, %d, want %d", name, i, e, want)
	}
}

// TestFind: the place of the first field with a name, if there is one (P9.1).
func TestFind(t *testing.T) {
	for i, f := range fields() {
		testFind(t, fields(), f.Name, i)
		testFind(t, fields()[i:], f.Name, 0)
		testFind(t, fields()[:i], f.Name, -1)
		testFind(t, fields()[i+1:], f.Name, -1)
		testFind(t, append(fields(), fields()...), f.Name, i)
		testFind(t, append(fields()[i+1:], fields()...), f.Name, len(fields())-1)
	}
	for _, name := range []string{"", "z", "A", "ye", "yess", "yes ", " yes", "Yes", "aa", "a\x00", "input", "if"} {
		testFind(t, fields(), name, -1)
	}
	testFind(t, nil, "a", -1)
	testFind(t, []api.Field{}, "a", -1)
	testFind(t, nil, "", -1)
	testFind(t, fields()[:0], "b", -1) // what is in unused capacity does not count
}

// TestFindInvalid: fields that are not valid are found, too (P9.1).
func TestFindInvalid(t *testing.T) {
	round := []api.Expr{{Op: api.Neg}}
	round[0].Args = round
	l := []api.Field{
		{Name: "x"}, {}, {Name: "if", Kind: 99}, {Name: "a b", Type: -1}, {Name: "a", Source: round[0]}, {Name: "x", Kind: api.Input},
		{Name: strings.Repeat("a", 99)}, {Name: "\xff"}, {Name: "a", Kind: api.Input, Type: api.Int},
	}
	for i, f := range l {
		testFind(t, l, f.Name, []int{0, 1, 2, 3, 4, 0, 6, 7, 4}[i])
	}
	testFind(t, l, strings.Repeat("a", 98), -1)
	testFind(t, l, "\xfe", -1)
	many := slices.Repeat([]api.Field{{Name: "a"}, {Name: "b"}}, 1<<17)
	testFind(t, many, "b", 1)
	testFind(t, many, "c", -1)
	testFind(t, append(many, api.Field{Name: "c"}), "c", 1<<18)
}

// testRight tests what is wrong with a field.
func testRight(t *testing.T, f api.Field, want api.Errno) {
	t.Helper()
	if e := Right(f); e != want {
		t.Errorf("Right(%.199v) = %d, want %d", f, e, want)
	}
}

// badSources are formulas that are not valid, and what is wrong with each.
func badSources() map[api.Errno][]api.Expr {
	round := []api.Expr{{Op: api.Neg}}
	round[0].Args = round
	return map[api.Errno][]api.Expr{
		api.ErrSize: {
			sum(31, ref("a")), tall(60, ref("a")), node(0, make([]api.Expr, 60)...), round[0], tall(1<<16-1, ref("a")),
			{Args: make([]api.Expr, 1<<20)},
		},
		api.ErrRange: {tall(12, ref("a")), tall(59, number(1)), node(0, tall(11, ref("a")))},
		api.ErrKind:  {{Op: -1}, {Op: 19}, {Op: math.MaxInt}, node(api.Add, ref("a"), api.Expr{}), node(0, ref("a"))},
		api.ErrForm: {
			node(api.Add, ref("a")), node(api.Neg), node(api.Ref), ref("A"), ref("if"), ref("aaaaaaaaaaa"), {Op: api.Const}, number(-1),
			number(api.MaxNumber + 1), boolean(2), text("\n"), text(strings.Repeat("a", 41)), constant(api.Value{Kind: api.Pending}),
			constant(api.Value{Kind: api.Fault, N: 5}), {Op: api.Const, V: number(1).V, Name: "a"}, node(api.Not, ref("")),
			{Op: api.Ref, Name: "a", V: number(1).V}, {Op: api.Ref, Name: "a", Args: []api.Expr{ref("a")}},
		},
	}
}

// parts of a field that are not valid, and what is wrong with each.
type parts struct {
	name   map[string]api.Errno
	number map[int]api.Errno
	source []source
}

// source of a field, with what is wrong with it for an Input, and for others.
type source struct {
	x               api.Expr
	ofInput, others api.Errno
}

// someParts are parts of fields, valid or not.
func someParts() parts {
	p := parts{map[string]api.Errno{"a": api.OK, "z9": api.OK, "abcdefghij": api.OK}, map[int]api.Errno{1: 0, 2: 0, 3: 0}, nil}
	for name, e := range badNames {
		p.name[name] = e
	}
	for _, n := range strange {
		p.number[n] = api.ErrKind
	}
	p.source = []source{{api.Expr{}, api.OK, api.ErrKind}, {api.Expr{Args: []api.Expr{}}, api.OK, api.ErrKind}}
	for _, s := range []string{"1", "a", "none", "-a", "1 + true", "a and 1", `if("", a, b)`, "len(a) / 0"} { // types do not count
		p.source = append(p.source, source{read(s), api.ErrForm, api.OK})
	}
	p.source = append(p.source, source{tall(11, ref("a")), api.ErrForm, api.OK}, source{tall(1, sum(30, ref("a"))), api.ErrForm, api.OK})
	for e, list := range badSources() {
		for _, x := range list {
			p.source = append(p.source, source{x, api.ErrForm, e})
		}
	}
	return p
}

// TestRight: fields of all combinations of parts; what is wrong with the first
// one counts (P9.2).
func TestRight(t *testing.T) {
	p := someParts()
	for name, wrongName := range p.name {
		for kind, wrongKind := range p.number {
			for own, wrongType := range p.number {
				for _, s := range p.source {
					wrong := []api.Errno{wrongName, wrongKind, wrongType, s.others}
					if kind == api.Input {
						wrong[3] = s.ofInput
					}
					testRight(t, api.Field{Name: name, Kind: kind, Type: own, Source: s.x}, first(wrong))
				}
			}
		}
	}
	for _, f := range fields() {
		testRight(t, f, api.OK)
	}
}

// TestRightInput: each part of the Source of an Input is zero (P9.2).
func TestRightInput(t *testing.T) {
	for _, own := range []int{api.Int, api.Bool, api.Text} {
		f := input("a", own)
		testRight(t, f, api.OK)
		for _, list := range [][]api.Expr{nil, {}, make([]api.Expr, 0, 9), []api.Expr{ref("a"), ref("b")}[:0]} {
			f.Source = api.Expr{Args: list}
			testRight(t, f, api.OK)
		}
		for _, x := range []api.Expr{
			{Op: api.Const}, {Op: api.Ref}, {Op: -1}, {Op: 99}, {Name: "a"}, {Name: " "}, {V: api.Value{Kind: api.Int}}, {V: api.Value{Kind: -1}},
			{V: api.Value{N: 1}}, {V: api.Value{N: math.MinInt}}, {V: api.Value{S: "a"}}, {V: api.Value{S: "\x00"}}, {Args: []api.Expr{{}}},
			{Args: []api.Expr{ref("a")}}, {Args: make([]api.Expr, 1<<20)}, ref("a"), number(0), boolean(0), text(""), node(api.Neg, ref("a")),
		} {
			f.Source = x
			testRight(t, f, api.ErrForm)
		}
	}
}

// testCheck tests what is wrong with fields.
func testCheck(t *testing.T, l []api.Field, want api.Errno) {
	t.Helper()
	if e := Check(l); e != want {
		t.Errorf("Check(%.999v) = %d, want %d", l, e, want)
	}
}

// TestCheck: lists of fields that are valid, and what can be wrong (P9.3).
func TestCheck(t *testing.T) {
	a, s, yes := input("a", api.Int), input("s", api.Text), input("yes", api.Bool)
	for want, lists := range map[api.Errno][][]api.Field{
		api.OK: {
			nil, {}, {a}, {s}, {yes}, {a, s, yes}, fields(), {a, formula("b", api.Bool, "a < 3")}, {formula("b", api.Bool, "a < 3"), a},
			{formula("b", api.Int, "1 / 0")}, {formula("b", api.Text, `"a" & "b"`)}, {lookup("b", api.Text, "1")}, {lookup("b", api.Int, `""`)},
			{lookup("b", api.Bool, "b")}, {lookup("b", api.Int, "b = 1")}, {formula("b", api.Int, "b + 1")}, // what hangs on itself has a type
			{formula("b", api.Int, "c"), formula("c", api.Int, "b")}, {formula("b", api.Text, "c"), lookup("c", api.Text, "b")},
			{yes, formula("b", api.Int, "if(yes, len(c), -1)"), lookup("c", api.Text, "yes")}, {a, input("aa", api.Text)},
			{{Name: "a", Kind: api.Input, Type: api.Bool, Source: api.Expr{Args: []api.Expr{}}}},
		},
		api.ErrType: {
			{a, formula("b", api.Int, "a < 3")}, {formula("b", api.Int, "a < 3"), a}, {formula("b", api.Text, "1")}, {formula("b", api.Bool, "0")},
			{a, formula("b", api.Text, "a")}, {s, formula("b", api.Int, "s")}, {yes, formula("b", api.Int, "-yes")}, {a, lookup("b", api.Int, "not a")},
			{lookup("b", api.Int, "1 + true")}, {lookup("b", api.Int, "b = true")}, {lookup("b", api.Int, "not b")}, {formula("b", api.Bool, "b + 1")},
			{formula("b", api.Int, "c"), formula("c", api.Bool, "true")}, {a, s, lookup("b", api.Text, "if(true, a, s)")},
			{formula("b", api.Bool, "c"), lookup("c", api.Int, "b")}, {a, formula("b", api.Int, "if(a, a, a)")},
		},
		api.ErrNone: {
			{formula("b", api.Int, "a")}, {formula("b", api.Int, "a + 1"), s}, {lookup("b", api.Int, "a")}, {a, lookup("b", api.Text, "a & none")},
			{a, formula("b", api.Int, "if(true, a, none)")}, {a, formula("b", api.Int, "none + true")}, {a, formula("b", api.Bool, "aa = a")},
			{input("aa", api.Int), lookup("b", api.Int, "a")}, fields()[:1], fields()[2:], fields()[:5],
		},
		api.ErrTwice: {
			{a, a}, {a, input("a", api.Text)}, {a, s, a}, {a, s, s}, {a, s, yes, formula("s", api.Int, "1")}, {a, lookup("a", api.Int, "a")},
			{lookup("a", api.Int, "a"), a}, append(fields(), fields()[1]), append(fields(), fields()...)[:14],
		},
		api.ErrForm: {{{Name: "if"}}, {input("A", api.Int)}, {{Name: "a", Kind: api.Input, Type: api.Int, Source: number(0)}}, {a, input("len", api.Int), a}},
		api.ErrKind: {
			{{Name: "a"}}, {{Name: "a", Kind: api.Input}}, {{Name: "a", Type: api.Int}}, {input("a", api.Fault)}, {a, {Name: "a"}},
			{{Name: "a", Kind: api.Formula, Type: api.Int}},
		},
		api.ErrSize: {{{}}, {input("aaaaaaaaaaa", api.Int)}, {a, {}, a}, {{Name: "a", Kind: api.Lookup, Type: api.Int, Source: sum(31, ref("a"))}}},
	} {
		for _, l := range lists {
			testCheck(t, l, want)
		}
	}
}

// TestCheckOrder: of several things that are wrong, the first one counts: what
// is wrong with any field itself comes before all types (P9.3).
func TestCheckOrder(t *testing.T) {
	a, none, wrong := input("a", api.Int), formula("b", api.Int, "none"), formula("b", api.Int, "true")
	for want, lists := range map[api.Errno][][]api.Field{
		api.ErrNone: {{none, a, formula("c", api.Int, "true")}, {none, lookup("c", api.Int, "-true")}, {a, none, lookup("c", api.Int, "1 & 1")}},
		api.ErrType: {
			{wrong, a, formula("c", api.Int, "none")}, {wrong, lookup("c", api.Int, "none")},
			{a, lookup("b", api.Int, "1 & 1"), formula("c", api.Int, "none")},
		},
		api.ErrTwice: {{none, a, a}, {wrong, none}, {none, a, none}, {a, a, {}}, {a, none, a, input("if", api.Int)}, {a, a, input("c", api.Pending)}},
		api.ErrForm:  {{none, input("if", api.Int)}, {wrong, a, input("A", api.Int), a}, {a, {Name: "a", Kind: api.Input, Type: api.Int, Source: number(1)}}},
		api.ErrKind:  {{none, {Name: "c"}}, {wrong, a, input("a", api.Fault)}, {a, {Name: "a"}, a}, {{Name: "c"}, a, a}, {{Name: "c"}, {Name: "if"}}},
		api.ErrSize:  {{none, {}}, {a, {}, a}, {wrong, a, {}}, {{}, input("if", api.Int)}, {a, {Name: "a", Kind: api.Formula, Type: api.Int, Source: sum(31, ref("a"))}}},
		api.ErrRange: {
			{none, {Name: "c", Kind: api.Lookup, Type: api.Int, Source: tall(12, ref("c"))}},
			{a, {Name: "a", Kind: api.Formula, Type: api.Int, Source: tall(12, ref("a"))}},
		},
	} {
		for _, l := range lists {
			testCheck(t, l, want)
		}
	}
}

// TestCheckLimits: as many fields as there can be, and more (P9.3).
func TestCheckLimits(t *testing.T) {
	for n := range api.MaxFields + 1 {
		testCheck(t, numbered(n), api.OK)
	}
	first, last := numbered(14), numbered(14)
	first[0], last[13] = formula("b", api.Int, "a13"), formula("b", api.Int, "a0")
	testCheck(t, first, api.OK)
	testCheck(t, last, api.OK)
	first[0], last[13] = formula("b", api.Int, "a0"), formula("b", api.Int, "a13")
	testCheck(t, first, api.ErrNone)
	testCheck(t, last, api.ErrNone)
	last[13] = lookup("a0", api.Int, "none")
	testCheck(t, last, api.ErrTwice)
	last[13] = input("b", 4)
	testCheck(t, last, api.ErrKind)
	testCheck(t, numbered(15), api.ErrSize)
	testCheck(t, numbered(99), api.ErrSize)
	testCheck(t, make([]api.Field, 1<<18), api.ErrSize)
	for _, f := range []api.Field{{Name: "if"}, {Name: "a"}, input("a0", api.Int), lookup("b", api.Int, "none"), formula("b", api.Int, "true")} {
		testCheck(t, append([]api.Field{f}, numbered(14)...), api.ErrSize)
		testCheck(t, append(numbered(14), f), api.ErrSize)
	}
}

// sample is a field, with what is wrong with it by itself. Its Source refers to
// the field ref, if any, which must be of the type need, if that is any; if the
// Source has another type than it should, misfit.
type sample struct {
	f      api.Field
	wrong  api.Errno
	ref    string
	need   int
	misfit bool
}

// samples of fields.
func samples() []sample {
	ofType := func(name string, own int) sample {
		return sample{f: formula(name, own, "a"), ref: "a", need: own}
	}
	return []sample{
		{f: input("a", api.Int)}, {f: input("a", api.Bool)}, {f: input("a", api.Text)}, {f: input("b", api.Int)}, {f: input("c", api.Text)},
		ofType("b", api.Int), ofType("c", api.Bool), ofType("d", api.Text), ofType("a", api.Int),
		{f: formula("b", api.Int, "a * 2"), ref: "a", need: api.Int}, {f: formula("c", api.Int, "len(b)"), ref: "b", need: api.Text},
		{f: formula("d", api.Bool, "not c"), ref: "c", need: api.Bool}, {f: formula("d", api.Text, "not c"), ref: "c", misfit: true},
		{f: formula("a", api.Bool, "1"), misfit: true}, {f: formula("c", api.Text, `"x"`)}, {f: formula("d", api.Int, "a = a"), ref: "a", misfit: true},
		{f: lookup("a", api.Text, "b"), ref: "b"}, {f: lookup("b", api.Text, "c"), ref: "c"}, {f: lookup("b", api.Bool, "-a"), ref: "a", need: api.Int},
		{f: lookup("c", api.Int, "true")}, {f: lookup("d", api.Int, "d"), ref: "d"}, {f: lookup("d", api.Int, "1 + true"), misfit: true},
		{f: api.Field{Name: "a"}, wrong: api.ErrKind}, {f: input("if", api.Int), wrong: api.ErrForm}, {f: api.Field{}, wrong: api.ErrSize},
		{f: api.Field{Name: "b", Kind: api.Lookup, Type: api.Int, Source: tall(12, ref("b"))}, wrong: api.ErrRange},
	}
}

// wrongSource is what is wrong with the type of the Source of a sample among
// others.
func wrongSource(s sample, list []sample) api.Errno {
	if s.ref != "" {
		i := slices.IndexFunc(list, func(other sample) bool { return other.f.Name == s.ref })
		if i < 0 {
			return api.ErrNone
		}
		if s.need != 0 && list[i].f.Type != s.need {
			return api.ErrType
		}
	}
	if s.misfit {
		return api.ErrType
	}
	return api.OK
}

// allWrong is what is wrong with samples, or OK, in the order in which it
// counts.
func allWrong(list []sample) []api.Errno {
	var all []api.Errno
	used := map[string]bool{}
	for _, s := range list {
		all = append(all, s.wrong)
		if used[s.f.Name] {
			all = append(all, api.ErrTwice)
		}
		used[s.f.Name] = true
	}
	for _, s := range list {
		all = append(all, wrongSource(s, list))
	}
	return all
}

// TestCheckMany: all lists of up to three samples (P9.3).
func TestCheckMany(t *testing.T) {
	lists, all, found := [][]sample{nil}, samples(), map[api.Errno]int{}
	for i := 0; i < len(lists); i++ {
		list, l := lists[i], []api.Field(nil)
		for _, s := range list {
			l = append(l, s.f)
		}
		want := first(allWrong(list))
		testCheck(t, l, want)
		found[want]++
		for _, s := range all {
			if len(list) < 3 {
				lists = append(lists, append(slices.Clone(list), s))
			}
		}
	}
	for _, e := range []api.Errno{api.OK, api.ErrTwice, api.ErrNone, api.ErrType, api.ErrSize, api.ErrKind, api.ErrForm, api.ErrRange} {
		if found[e] < 400 {
			t.Errorf("%d lists are too much alike: %v", len(lists), found)
		}
	}
}

// testTold tests whether a field can be set to a value.
func testTold(t *testing.T, l []api.Field, name string, v api.Value, want api.Errno) {
	t.Helper()
	if e := Told(l, name, v); e != want {
		t.Errorf("Told(%.199v, %q, %v) = %d, want %d", l, name, v, e, want)
	}
}

// values by their types, and those that are not Known by 0.
func values() map[int][]api.Value {
	return map[int][]api.Value{
		api.Int:  {{Kind: 1}, {Kind: 1, N: 3}, {Kind: 1, N: -3}, {Kind: 1, N: api.MaxNumber}, {Kind: 1, N: -api.MaxNumber}},
		api.Bool: {{Kind: 2}, {Kind: 2, N: 1}},
		api.Text: {{Kind: 3}, {Kind: 3, S: "a"}, {Kind: 3, S: "1"}, {Kind: 3, S: strings.Repeat("~", 40)}, {Kind: 3, S: ` "\`}},
		0: {
			{}, {Kind: 4}, {Kind: 5, N: 1}, {Kind: 5, N: 14}, {Kind: 5}, {Kind: 6}, {Kind: -1}, {Kind: 99, N: 1}, {N: 1}, {S: "a"},
			{Kind: 1, N: api.MaxNumber + 1}, {Kind: 1, N: -api.MaxNumber - 1}, {Kind: 1, N: math.MinInt}, {Kind: 1, S: "1"},
			{Kind: 2, N: 2}, {Kind: 2, N: -1}, {Kind: 2, N: 1, S: "true"}, {Kind: 3, N: 1}, {Kind: 3, S: "\n"}, {Kind: 3, S: "\x7f"},
			{Kind: 3, S: "é"}, {Kind: 3, S: strings.Repeat("~", 41)}, {Kind: 4, N: 1}, {Kind: 5, N: 16},
		},
	}
}

// TestTold: each field with each value (P9.4).
func TestTold(t *testing.T) {
	types := map[string]int{"a": api.Int, "yes": api.Bool, "s": api.Text}
	for kind, list := range values() {
		for _, v := range list {
			for _, f := range fields() {
				want := api.ErrType
				switch {
				case types[f.Name] == 0:
					want = api.ErrKind
				case types[f.Name] == kind:
					want = api.OK
				}
				testTold(t, fields(), f.Name, v, want)
				testTold(t, []api.Field{f}, f.Name, v, want)
			}
			for _, name := range []string{"", "none", "A", "aa", "if", "a ", "ye"} {
				testTold(t, fields(), name, v, api.ErrNone)
			}
			testTold(t, nil, "a", v, api.ErrNone)
			testTold(t, fields()[:1], "a", v, api.ErrNone)
		}
	}
}

// TestToldInvalid: fields that are not valid have a Kind and a Type, too, and
// the first one with a name counts (P9.4).
func TestToldInvalid(t *testing.T) {
	for kind, list := range values() {
		for _, v := range list {
			for _, n := range strange {
				testTold(t, []api.Field{{Name: "a", Kind: n, Type: kind}}, "a", v, api.ErrKind)
				testTold(t, []api.Field{input("a", n)}, "a", v, api.ErrType)
				testTold(t, []api.Field{input("a", v.Kind+n), input("a", v.Kind)}, "b", v, api.ErrNone)
			}
		}
	}
	three := api.Value{Kind: api.Int, N: 3}
	testTold(t, []api.Field{input("a", api.Int), input("a", api.Text), formula("a", api.Int, "1")}, "a", three, api.OK)
	testTold(t, []api.Field{input("a", api.Text), input("a", api.Int)}, "a", three, api.ErrType)
	testTold(t, []api.Field{formula("a", api.Int, "1"), input("a", api.Int)}, "a", three, api.ErrKind)
	testTold(t, []api.Field{lookup("a", api.Int, "1"), input("a", api.Int)}, "a", three, api.ErrKind)
	for _, name := range []string{"", "if", "A b", strings.Repeat("a", 99)} {
		testTold(t, append(numbered(20), input(name, api.Int)), name, three, api.OK)
	}
	testTold(t, []api.Field{{Name: "a", Kind: api.Input, Type: api.Int, Source: ref("A")}}, "a", three, api.OK)
}

// same: are two formulas the same, be their empty lists nil or not?
func same(x, y api.Expr) bool {
	return x.Op == y.Op && x.V == y.V && x.Name == y.Name && slices.EqualFunc(x.Args, y.Args, same)
}

// sameFields: are two lists of fields the same?
func sameFields(a, b []api.Field) bool {
	return slices.EqualFunc(a, b, func(f, g api.Field) bool {
		return f.Name == g.Name && f.Kind == g.Kind && f.Type == g.Type && same(f.Source, g.Source)
	})
}

// roomy is a copy of a formula, with unused capacity that has something in it.
func roomy(x api.Expr) api.Expr {
	l := slices.Repeat([]api.Expr{ref("unused")}, len(x.Args)+2)
	for i, arg := range x.Args {
		l[i] = roomy(arg)
	}
	x.Args = l[:len(x.Args)]
	return x
}

// roomyFields are a copy of fields, with unused capacity like that, too.
func roomyFields(l []api.Field) []api.Field {
	all := slices.Repeat([]api.Field{formula("unused", api.Int, "a + b")}, len(l)+2)
	for i, f := range l {
		f.Source = roomy(f.Source)
		all[i] = f
	}
	return all[:len(l)]
}

// whole of a formula: also what is in its unused capacity.
func whole(x api.Expr) api.Expr {
	x.Args = slices.Clone(x.Args[:cap(x.Args)])
	for i, arg := range x.Args {
		x.Args[i] = whole(arg)
	}
	return x
}

// wholeFields are all of the fields, and what is in their unused capacity.
func wholeFields(l []api.Field) []api.Field {
	all := slices.Clone(l[:cap(l)])
	for i := range all {
		all[i].Source = whole(all[i].Source)
	}
	return all
}

// places that the lists of a formula have in memory, with the unused ones,
// each with how often it is found.
func places(found map[any]int, x api.Expr) {
	all := x.Args[:cap(x.Args)]
	for i := range all {
		found[&all[i]]++
	}
	for _, arg := range x.Args {
		places(found, arg)
	}
}

// placesOf fields, and of their formulas.
func placesOf(found map[any]int, l []api.Field) {
	all := l[:cap(l)]
	for i := range all {
		found[&all[i]]++
		places(found, all[i].Source)
	}
}

// testCopy tests a copy of fields: it is the same, in new memory, and the
// fields stay as they are.
func testCopy(t *testing.T, l []api.Field) {
	t.Helper()
	before, own, found := wholeFields(l), map[any]int{}, map[any]int{}
	placesOf(own, l)
	one, two := Copy(l), Copy(l)
	if !sameFields(one, l) || !sameFields(two, l) {
		t.Errorf("Copy(%.999v) = %.999v, and then %.999v", l, one, two)
	}
	placesOf(found, one)
	placesOf(found, two)
	for place, n := range found {
		if n > 1 || own[place] > 0 {
			t.Fatalf("Copy(%.999v) shares memory", l)
		}
	}
	if !reflect.DeepEqual(wholeFields(l), before) {
		t.Errorf("Copy(%.999v) changed it", l)
	}
}

// TestCopy: copies of fields, valid or not (P9.5).
func TestCopy(t *testing.T) {
	twice := []api.Expr{ref("a"), node(api.Neg, ref("b"))} // the same list several times
	odd := []api.Field{
		{}, {Name: "if", Kind: -1, Type: 99}, {Name: "\xff", Type: 4, Source: api.Expr{Name: "a", V: api.Value{Kind: 9, N: -1, S: "\n"}, Args: twice}},
		{Source: node(api.Add, twice...)}, {Source: node(api.Sub, node(0, twice...), node(77, twice...))}, {Name: "if", Source: tall(99, node(0))},
		{Kind: api.Input, Source: node(api.If, make([]api.Expr, 99)...)}, {Source: api.Expr{Args: []api.Expr{}}},
	}
	lists := [][]api.Field{nil, {}, fields(), fields()[2:5], numbered(14), numbered(99), odd, append(fields(), fields()...), make([]api.Field, 1<<12)}
	for _, l := range lists {
		testCopy(t, l)
		testCopy(t, roomyFields(l))
	}
	for i, f := range append(fields(), odd...) {
		testCopy(t, []api.Field{f, f})
		testCopy(t, append(fields(), odd...)[:i])
	}
	large := []api.Field{{Name: "a", Source: tall(1<<16-1, ref("a"))}, {Source: sum(1<<15, ref("a"))}}
	if l := Copy(large); !sameFields(l, large) || &l[0].Source.Args[0] == &large[0].Source.Args[0] {
		t.Errorf("Copy of a large formula is another one, or shares memory")
	}
}

// TestCopyChanged: a change to a copy changes nothing else (P9.5).
func TestCopyChanged(t *testing.T) {
	l := fields()
	result := Copy(l)
	for i := range result {
		result[i].Name, result[i].Kind, result[i].Type = "other", 9, 9
		for j := range result[i].Source.Args {
			result[i].Source.Args[j] = ref("other")
		}
		result[i].Source.Args = append(result[i].Source.Args, ref("other"))
		result[i].Source.Op = 9
	}
	if !sameFields(l, fields()) || !sameFields(Copy(l), fields()) {
		t.Errorf("a change to a copy changed the fields: %v", l)
	}
}

// TestMemory: arguments stay as they are, and nothing is kept between calls.
func TestMemory(t *testing.T) {
	for i := range fields() {
		l := roomyFields(fields())
		if i > 0 {
			l[i].Name = l[i-1].Name
		}
		before, v := wholeFields(l), api.Value{Kind: l[i].Type}
		for range 3 {
			testFind(t, l, l[i].Name, max(0, i-1))
			testFind(t, l, "unused", -1)
			testRight(t, l[i], api.OK)
			testTold(t, l, "unused", v, api.ErrNone)
			testTold(t, l[i:], l[i].Name, v, Told(fields(), fields()[i].Name, v))
			testCheck(t, l, []api.Errno{api.OK, api.ErrTwice}[min(i, 1)])
			testCheck(t, l[:i], Check(fields()[:i]))
		}
		if !reflect.DeepEqual(wholeFields(l), before) {
			t.Errorf("the fields %v changed", l)
		}
	}
}
