package whole

import (
	"fmt"
	"math"
	"reflect"
	"slices"
	"strconv"
	"strings"
	"testing"

	"lychway/api"
	"lychway/eval"
	"lychway/expr"
	"lychway/sheet"
	"lychway/typing"
	"lychway/value"
)

// ref and number are formulas of one node, and node has Args.
func ref(name string) api.Expr            { return api.Expr{Op: api.Ref, Name: name} }
func number(n int) api.Expr               { return api.Expr{Op: api.Const, V: integer(n)} }
func node(op int, l ...api.Expr) api.Expr { return api.Expr{Op: op, Args: l} }

// integer, boolean, text and fault are values, and pending is one.
func integer(n int) api.Value { return api.Value{Kind: api.Int, N: n} }
func boolean(n int) api.Value { return api.Value{Kind: api.Bool, N: n} }
func text(s string) api.Value { return api.Value{Kind: api.Text, S: s} }
func fault(n int) api.Value   { return api.Value{Kind: api.Fault, N: n} }

var pending = api.Value{Kind: api.Pending}

// must is the value of a notation.
func must(s string) api.Value {
	v, e := value.Parse(s)
	if e != api.OK {
		panic("there is no value " + s)
	}
	return v
}

// fact that a field has a value, and answer of a Lookup to a key: "a", "4" and
// "c", "5", `"x"`.
func fact(name, has string) api.Fact { return api.Fact{Name: name, Has: must(has)} }
func answer(name, key, has string) api.Fact {
	return api.Fact{Name: name, Key: must(key), Has: must(has)}
}

// facts and answers of lines: "a 4", `c 5 "x"`; a Text has no space in it.
func facts(lines ...string) []api.Fact {
	var l []api.Fact
	for _, line := range lines {
		words := strings.Fields(line)
		l = append(l, fact(words[0], words[1]))
	}
	return l
}
func answers(lines ...string) []api.Fact {
	var l []api.Fact
	for _, line := range lines {
		words := strings.Fields(line)
		l = append(l, answer(words[0], words[1], words[2]))
	}
	return l
}

// read is the formula of a notation, which must be valid; there is none in an
// empty string.
func read(s string) api.Expr {
	if s == "" {
		return api.Expr{}
	}
	x, at, e := expr.Parse(s)
	if e != api.OK {
		panic("Parse of " + s + ": error " + strconv.Itoa(int(e)) + " at " + strconv.Itoa(at))
	}
	return x
}

// kinds of fields and types, by their words.
var kinds = map[string]int{"input": api.Input, "formula": api.Formula, "lookup": api.Lookup}
var types = map[string]int{"int": api.Int, "bool": api.Bool, "text": api.Text}

// field of a line: "input a int", "formula b bool = a < 3", "lookup c text = b".
// Only the formula must be valid.
func field(line string) api.Field {
	head, source, _ := strings.Cut(line, " = ")
	words := strings.Fields(head)
	return api.Field{Name: words[1], Kind: kinds[words[0]], Type: types[words[2]], Source: read(source)}
}

// form of fields, with one page.
func form(lines ...string) api.Form {
	f := api.Form{Pages: []api.Page{{Name: "p"}}}
	for _, line := range lines {
		f.Fields = append(f.Fields, field(line))
	}
	return f
}

// shownValue, shown and shownFacts are values, fields and facts as text.
func shownValue(v api.Value) string {
	s, e := value.Show(v)
	if e != api.OK {
		return fmt.Sprintf("{%d %d %q}", v.Kind, v.N, v.S)
	}
	return s
}
func shownValues(l []api.Value) string {
	var list []string
	for _, v := range l {
		list = append(list, shownValue(v))
	}
	return strings.Join(list, " ")
}
func shownFacts(l []api.Fact) string {
	list := []string{fmt.Sprint(len(l), " facts")}
	for _, f := range l[:min(len(l), 20)] {
		list = append(list, fmt.Sprintf("%q by %s: %s", f.Name, shownValue(f.Key), shownValue(f.Has)))
	}
	return "[" + strings.Join(list, " | ") + "]"
}
func shownFields(l []api.Field) string {
	list := []string{fmt.Sprint(len(l), " fields")}
	for _, f := range l[:min(len(l), 20)] {
		s, e := expr.Print(f.Source)
		if e != api.OK {
			s = fmt.Sprintf("Op %d, %q, %d Args", f.Source.Op, f.Source.Name, len(f.Source.Args))
		}
		list = append(list, fmt.Sprintf("%q %d %d = %s", f.Name, f.Kind, f.Type, s))
	}
	return "[" + strings.Join(list, " | ") + "]"
}

// tall is a formula with n Nots above the last node.
func tall(n int, last api.Expr) api.Expr {
	for range n {
		last = node(api.Not, last)
	}
	return last
}

// some form of fields of all kinds and types, with keys of all types, which are
// not in the order of their dependencies.
func some() api.Form {
	return form(
		"formula b int = a + 1", "input a int", "lookup c text = b", "input yes bool", "formula d bool = yes and len(c) < e",
		"lookup e int = s & c", "input s text", `formula u text = if(d, c, "none")`, "lookup v bool = not d",
	)
}

// values of all kinds; those behind the first 19 are not valid.
func values() []api.Value {
	return []api.Value{
		integer(0), integer(3), integer(-3), integer(api.MaxNumber), integer(-api.MaxNumber), boolean(0), boolean(1),
		text(""), text("a"), text("1"), text(strings.Repeat("~", 40)), text(` "\`), pending,
		fault(1), fault(2), fault(5), fault(8), fault(14), fault(15),
		{}, {Kind: -1}, {Kind: 6}, {Kind: math.MaxInt}, {N: 1}, {S: "a"}, fault(0), fault(16), fault(-1), {Kind: 5, N: 3, S: "x"}, {Kind: 4, N: 1},
		{Kind: 4, S: "?"}, integer(api.MaxNumber + 1), integer(math.MinInt), {Kind: 1, S: "1"}, boolean(2), boolean(-1), {Kind: 2, N: 1, S: "true"},
		{Kind: 3, N: 1}, text("\n"), text("\x7f"), text("é"), text(strings.Repeat("~", 41)),
	}
}

// typeOf a value, which is 0 if it is not Known, and Fault if it is a valid
// Fault.
func typeOf(v api.Value) int {
	if slices.Index(values(), v) >= 19 || v == pending {
		return 0
	}
	return v.Kind
}

// testOracle tests what is wrong with an oracle for a form.
func testOracle(t *testing.T, f api.Form, l []api.Fact, want api.Errno) {
	t.Helper()
	if e := Oracle(f, l); e != want {
		t.Errorf("Oracle(%s, %s) = %d, want %d", shownFields(f.Fields), shownFacts(l), e, want)
	}
}

// TestOracleOne: each field with each key and each answer (P14.1).
func TestOracleOne(t *testing.T) {
	keys := map[string]int{"c": api.Int, "e": api.Text, "v": api.Bool}
	own := map[string]int{"c": api.Text, "e": api.Int, "v": api.Bool}
	found := 0
	for _, key := range values() {
		for _, has := range values() {
			for _, one := range some().Fields {
				want := api.OK
				switch {
				case own[one.Name] == 0:
					want = api.ErrKind
				case typeOf(key) != keys[one.Name] || typeOf(has) != own[one.Name] && typeOf(has) != api.Fault:
					want = api.ErrType
				default:
					found++
				}
				testOracle(t, some(), []api.Fact{{Name: one.Name, Key: key, Has: has}}, want)
			}
			for _, name := range []string{"", "none", "A", "cc", "if", "c ", "ye", "p"} {
				testOracle(t, some(), []api.Fact{{Name: name, Key: key, Has: has}}, api.ErrNone)
			}
		}
	}
	if found != 5*(5+6)+5*(5+6)+2*(2+6) {
		t.Errorf("%d answers are valid", found)
	}
}

// TestOracle: several facts (P14.1).
func TestOracle(t *testing.T) {
	five, six, hit, yes := answer("c", "5", `"ok"`), answer("c", "6", `"ok"`), answer("e", `"x"`, "4"), answer("v", "true", "false")
	five2, wrong := answer("c", "5", `"no"`), answer("c", `"5"`, `"ok"`)
	for want, lists := range map[api.Errno][][]api.Fact{
		api.OK: {
			nil, {}, {five}, {five, six}, {six, hit, yes, five}, {answer("c", "5", "!14")}, {answer("v", "true", "!1"), answer("v", "false", "!15")},
			{answer("c", "-5", `"ok"`), five}, {answer("e", `"5"`, "5"), five}, []api.Fact{five, five}[:1], {answer("v", "false", "false"), yes},
		},
		api.ErrNone:  {{{}}, {answer("z", "5", "5")}, {five, yes, answer("p", "5", "5")}, {{Key: integer(1)}, wrong}, {five, {Name: "z"}, five}},
		api.ErrKind:  {{fact("a", "5")}, {five, {Name: "b", Key: integer(5), Has: integer(5)}}, {{Name: "d"}, wrong}, {hit, {Name: "yes"}, {Name: "z"}}},
		api.ErrType:  {{wrong}, {five, wrong}, {wrong, five, five}, {{Name: "c", Has: text("")}}, {{Name: "c", Key: integer(5)}}, {yes, answer("c", "5", "?")}},
		api.ErrTwice: {{five, five}, {five, five2}, {five2, five}, {hit, six, yes, five, six}, {five, five, wrong}, {yes, yes, {}}, {hit, yes, answer("e", `"x"`, "!14")}},
	} {
		for _, l := range lists {
			testOracle(t, some(), l, want)
			testOracle(t, api.Form{Fields: some().Fields}, l, want)
		}
	}
}

// TestOracleMany: all lists of up to four of several facts, with what is wrong
// with each by itself (P14.1).
func TestOracleMany(t *testing.T) {
	type part struct {
		f     api.Fact
		wrong api.Errno
	}
	all := []part{
		{answer("c", "1", `"a"`), api.OK}, {answer("c", "1", "!3"), api.OK}, {answer("c", "2", `"a"`), api.OK}, {answer("e", `"1"`, "1"), api.OK},
		{answer("e", `""`, "1"), api.OK}, {answer("v", "true", "true"), api.OK}, {answer("v", "1", "true"), api.ErrType},
		{answer("c", "1", "1"), api.ErrType}, {answer("c", "?", `"a"`), api.ErrType}, {answer("c", "1", "?"), api.ErrType},
		{answer("b", "1", "1"), api.ErrKind}, {answer("a", "1", "1"), api.ErrKind}, {answer("z", "1", `"a"`), api.ErrNone},
	}
	lists := [][]part{nil}
	found := map[api.Errno]int{}
	for i := 0; i < len(lists); i++ {
		var l []api.Fact
		want := api.OK
		for _, p := range lists[i] {
			twice := slices.ContainsFunc(l, func(f api.Fact) bool { return f.Name == p.f.Name && f.Key == p.f.Key })
			if want == api.OK {
				want = p.wrong
			}
			if want == api.OK && twice {
				want = api.ErrTwice
			}
			l = append(l, p.f)
		}
		testOracle(t, some(), l, want)
		found[want]++
		for _, p := range all {
			if len(l) < 4 {
				lists = append(lists, append(slices.Clip(lists[i]), p))
			}
		}
	}
	for _, e := range []api.Errno{api.OK, api.ErrKind, api.ErrType, api.ErrNone, api.ErrTwice} {
		if found[e] < 300 {
			t.Errorf("the lists are too much alike: %v", found)
		}
	}
}

// TestOracleForm: the form need not be valid, and the first field with a name
// counts (P14.1).
func TestOracleForm(t *testing.T) {
	five := answers(`c 5 "ok"`)
	for want, lists := range map[api.Errno][][]string{
		api.OK: {
			{"lookup c text = a", "input a int"}, {"lookup c text = a", "input a int", "input a text"}, {"lookup c text = 1", "lookup c int = true"},
			{"lookup c text = a", "formula a int"}, {"lookup c text = a", "other a int"}, {"lookup c text = len(c)"}, {"lookup c text = if(b, c2, -c2)", "lookup c2 int", "input b bool"},
			{"lookup c text = 5", "formula a int = z", "formula z z = z"}, {"input A int", "input if int", "lookup c text = b", "input b int", "formula b text = c"},
		},
		api.ErrNone: {{}, {"input b int"}, {"lookup cc text = 1", "lookup C text = 1"}},
		api.ErrKind: {{"input c text", "lookup c text = 1"}, {"formula c text = 1"}, {"other c text = 1", "lookup c text = 1"}},
		api.ErrType: {
			{"lookup c text"}, {"lookup c text = a"}, {"lookup c text = a", "input a text", "input a int"}, {"lookup c int = 1", "lookup c text = 1"},
			{"lookup c text = true", "lookup c text = 1"}, {"lookup c text = a", "input a other"}, {"lookup c other = 1"}, {"lookup c text = c"},
			{"lookup c text = -true"}, {"lookup c text = 1 + z"}, {"lookup c text = len(a)", "input a int"}, {"lookup c text = if(1 < 2, 1, z)"},
		},
	} {
		for _, lines := range lists {
			testOracle(t, form(lines...), nil, api.OK)
			testOracle(t, form(lines...), five, want)
			testOracle(t, api.Form{Fields: form(lines...).Fields, Pages: make([]api.Page, 9)}, five, want)
			testOracle(t, form(append(slices.Clip(lines), "input x int", "input x int", "formula y bool = 1")...), five, want)
			testOracle(t, api.Form{Fields: append(form(lines...).Fields, field("lookup c text = 1"))[:len(lines)]}, five, want)
		}
	}
	testOracle(t, api.Form{}, nil, api.OK)
	testOracle(t, api.Form{}, five, api.ErrNone)
	for _, name := range []string{"", "if", "A b", "\xff", strings.Repeat("a", 99)} {
		f := api.Form{Fields: []api.Field{{Name: name, Kind: api.Lookup, Type: api.Bool, Source: number(1)}}}
		l := []api.Fact{{Name: name, Key: integer(1), Has: boolean(1)}, {Name: name, Key: integer(2), Has: boolean(1)}}
		testOracle(t, f, l, api.OK)
		testOracle(t, f, append(l, l[0]), api.ErrTwice)
		testOracle(t, f, append(l, api.Fact{Name: name, Key: boolean(1), Has: boolean(1)}), api.ErrType)
		f.Fields[0].Kind = api.Formula
		testOracle(t, f, l, api.ErrKind)
	}
}

// TestOracleSource: keys of Lookups whose Source is not valid, or refers to a
// field of no type (P14.1).
func TestOracleSource(t *testing.T) {
	sources := []api.Expr{
		{}, {Args: []api.Expr{}}, {Op: 99}, {Op: -1, Name: "a"}, {Name: "a"}, ref("A"), ref(""), ref("aaaaaaaaaaa"), ref("z"), node(api.Neg), node(api.Add, ref("a")),
		{Op: api.Ref, Name: "a", Args: []api.Expr{ref("a")}}, {Op: api.Ref, Name: "a", V: integer(1)}, {Op: api.Const}, {Op: api.Const, V: pending},
		{Op: api.Const, V: fault(3)}, {Op: api.Const, V: boolean(2)}, {Op: api.Neg, Name: "a", Args: []api.Expr{ref("a")}}, tall(12, ref("b")), tall(99, ref("b")),
		node(api.Not, ref("a")), node(api.If, ref("b"), ref("a"), ref("s")), node(api.Same, ref("odd"), ref("a")), ref("odd"), ref("none"), ref("wait"), ref("fault"),
		node(api.Add, slices.Repeat([]api.Expr{ref("a")}, 60)...), tall(1<<16-2, ref("b")), node(api.Join, make([]api.Expr, 1<<18)...),
	}
	for _, x := range append(sources, ref("a"), number(7), ref("b"), tall(11, ref("b")), ref("s"), node(api.Same, ref("odd"), ref("odd"))) {
		f := form("input a int", "input b bool", "input s text")
		for i, name := range []string{"odd", "none", "wait", "fault"} {
			f.Fields = append(f.Fields, api.Field{Name: name, Kind: api.Input, Type: []int{99, 0, api.Pending, api.Fault}[i]})
		}
		kind, e := typing.Of(x, f.Fields)
		f.Fields = append(f.Fields, api.Field{Name: "c", Kind: api.Lookup, Type: api.Int, Source: x})
		for _, key := range values() {
			want := api.ErrType
			if e == api.OK && kind == typeOf(key) && kind >= api.Int && kind <= api.Text {
				want = api.OK
			}
			testOracle(t, f, []api.Fact{{Name: "c", Key: key, Has: integer(1)}}, want)
			testOracle(t, f, []api.Fact{{Name: "c", Key: key, Has: fault(1)}}, want)
		}
	}
}

// TestOracleType: answers of Lookups of no type (P14.1).
func TestOracleType(t *testing.T) {
	for _, own := range []int{0, api.Pending, api.Fault, 6, 99, -1, math.MaxInt, math.MinInt} {
		f := api.Form{Fields: []api.Field{{Name: "c", Kind: api.Lookup, Type: own, Source: number(1)}}}
		for _, has := range values() {
			want := api.ErrType
			if typeOf(has) == api.Fault || own == api.Pending && has == pending {
				want = api.OK
			}
			testOracle(t, f, []api.Fact{{Name: "c", Key: integer(1), Has: has}}, want)
		}
	}
}

// TestOracleLarge: long lists of fields and of facts (P14.1).
func TestOracleLarge(t *testing.T) {
	var f api.Form
	var l, of []api.Fact
	for i := range 1 << 17 {
		name, last := "a"+strconv.Itoa(i), "a"+strconv.Itoa(1<<17-1-i)
		f.Fields = append(f.Fields, api.Field{Name: name, Kind: api.Lookup, Type: api.Int, Source: node(api.Add, ref(last), ref(name))})
		l = append(l, api.Fact{Name: last, Key: integer(i), Has: integer(i)})
		of = append(of, api.Fact{Name: "c", Key: integer(i), Has: text("")})
	}
	testOracle(t, f, l, api.OK)
	testOracle(t, f, append(slices.Clip(l), l[0]), api.ErrTwice)
	testOracle(t, f, append(slices.Clip(l), l[len(l)-1]), api.ErrTwice)
	testOracle(t, f, append(slices.Clip(l), fact("z", "1")), api.ErrNone)
	testOracle(t, api.Form{Fields: f.Fields[1:]}, l, api.ErrType)
	testOracle(t, api.Form{Fields: f.Fields[:1<<16]}, l, api.ErrNone)
	testOracle(t, f, slices.Repeat(l[:1], 1<<17), api.ErrTwice)
	testOracle(t, some(), of, api.OK)
	testOracle(t, some(), append(of, of[1<<16]), api.ErrTwice)
	wide := node(api.Join, slices.Repeat([]api.Expr{ref("a")}, 1<<18)...)
	for range 1 << 15 {
		wide = node(api.Not, wide, ref("a"))
	}
	testOracle(t, api.Form{Fields: []api.Field{field("input a int"), {Name: "c", Kind: api.Lookup, Type: api.Text, Source: wide}}}, of, api.ErrType)
}

// testAsked tests what a key is answered with.
func testAsked(t *testing.T, l []api.Fact, name string, key, want api.Value) {
	t.Helper()
	if v := Asked(l, name, key); v != want {
		t.Errorf("Asked(%s, %q, %s) = %s, want %s", shownFacts(l), name, shownValue(key), shownValue(v), shownValue(want))
	}
}

// TestAsked: the first fact with the name and the key, a Pending if there is
// none, and the key if it is not Known (P14.2).
func TestAsked(t *testing.T) {
	l := answers(`c 5 "ok"`, `e "5" 7`, `c 5 "no"`, "v true !14", "c 6 !3", "e true 8", "e 5 ?", `c -5 "x"`, `c 7 "y"`, "c 7 1", "e 1 2")
	for _, c := range []struct{ name, key, want string }{
		{"c", "5", `"ok"`}, {"c", "-5", `"x"`}, {"c", "6", "!3"}, {"c", "7", `"y"`}, {"c", "8", "?"}, {"c", `"5"`, "?"}, {"c", "true", "?"}, {"c", "1", "?"},
		{"e", `"5"`, "7"}, {"e", "5", "?"}, {"e", "true", "8"}, {"e", "1", "2"}, {"e", "false", "?"}, {"e", `""`, "?"}, {"v", "true", "!14"}, {"v", "1", "?"},
		{"", "5", "?"}, {"cc", "5", "?"}, {"C", "5", "?"}, {"z", "5", "?"}, {"c", "?", "?"}, {"c", "!14", "!14"}, {"z", "!3", "!3"}, {"e", "!1", "!1"},
	} {
		testAsked(t, l, c.name, must(c.key), must(c.want))
	}
	testAsked(t, l[:2], "c", integer(6), pending) // what is in unused capacity does not count
	testAsked(t, l[1:], "c", integer(5), text("no"))
}

// TestAskedValues: all keys and all answers, valid or not (P14.2).
func TestAskedValues(t *testing.T) {
	for _, key := range values() {
		known := typeOf(key) >= api.Int && typeOf(key) <= api.Text
		for _, has := range values() {
			for _, name := range []string{"c", "", "A b", "\xff"} {
				want, none := key, key
				if known {
					want, none = has, pending
				}
				one := api.Fact{Name: name, Key: key, Has: has}
				testAsked(t, []api.Fact{one}, name, key, want)
				testAsked(t, []api.Fact{one, {Name: name, Key: key, Has: text("other")}}, name, key, want)
				testAsked(t, []api.Fact{{Name: name, Key: integer(77), Has: key}, {Name: name + " ", Key: key, Has: key}, one}, name, key, want)
				testAsked(t, []api.Fact{one}, name+"c", key, none)
				testAsked(t, nil, name, key, none)
			}
		}
	}
	for _, key := range []api.Value{integer(1), boolean(1), text("1"), integer(0), boolean(0), text("")} {
		for _, other := range []api.Value{integer(1), boolean(1), text("1"), integer(0), boolean(0), text("")} {
			want := pending
			if other == key {
				want = integer(9)
			}
			testAsked(t, []api.Fact{{Name: "c", Key: other, Has: integer(9)}}, "c", key, want)
		}
	}
	var l []api.Fact
	for i := range 1 << 18 {
		l = append(l, api.Fact{Name: "c", Key: integer(i), Has: integer(-i)})
	}
	testAsked(t, l, "c", integer(1<<18-1), integer(1-1<<18))
	testAsked(t, l, "c", integer(1<<18), pending)
}

// testOne tests the value of one field.
func testOne(t *testing.T, f api.Field, inputs, oracle, known []api.Fact, want api.Value) {
	t.Helper()
	if v := One(f, inputs, oracle, known); v != want {
		t.Errorf("One(%s, %s, %s, %s) = %s, want %s", shownFields([]api.Field{f}), shownFacts(inputs), shownFacts(oracle), shownFacts(known), shownValue(v), shownValue(want))
	}
}

// TestInput: what the first fact of inputs with the name states, or the value
// that is 0, false, or the empty string (P14.3).
func TestInput(t *testing.T) {
	other := answers("a 1 9", "b 2 9")
	for _, c := range []struct {
		line, inputs string
		want         string
	}{
		{"input a int", "", "0"}, {"input b bool", "", "false"}, {"input s text", "", `""`}, {"input a int", "a 4", "4"}, {"input a int", "b true|a 4", "4"},
		{"input a int", "a 4|a 5", "4"}, {"input a int", "a 5|b true|a 4", "5"}, {"input b bool", "a 4|b true|s x", "true"}, {"input s text", "a 4|s x", `"x"`},
		{"input a int", "aa 4|A 4|b 4", "0"}, {"input s text", "a 4", `""`}, {"input a int", "a x", `"x"`}, {"input a bool", "a 7", "7"}, {"input a int", "a ?", "?"},
	} {
		var inputs []api.Fact
		for _, s := range strings.FieldsFunc(c.inputs, func(r rune) bool { return r == '|' }) {
			inputs = append(inputs, facts(strings.Replace(s, "x", `"x"`, 1))...)
		}
		testOne(t, field(c.line), inputs, nil, nil, must(c.want))
		testOne(t, field(c.line), inputs, other, other, must(c.want))
	}
	testOne(t, field("input a int"), facts("b 1", "a 4")[:1], other, other, integer(0))
	testOne(t, field("input a int"), answers("a 1 4", "a 2 5"), other, other, integer(4)) // it is not asked what its key is
	for _, v := range values() {
		for _, own := range []int{api.Int, api.Bool, api.Text, 0, 4, 5, 6, -1, math.MaxInt} {
			for _, name := range []string{"a", "", "A b"} {
				f := api.Field{Name: name, Kind: api.Input, Type: own, Source: ref("b")}
				testOne(t, f, []api.Fact{{Name: name, Key: v, Has: v}, fact("a", "1")}, other, other, v)
				testOne(t, f, []api.Fact{{Name: name + "z", Key: v, Has: v}}, other, other, api.Value{Kind: own})
			}
		}
	}
}

// TestFormula: the value of the Source by the facts known, or the zero value
// (P14.3).
func TestFormula(t *testing.T) {
	other := answers("a 4 9", "b 5 9", "a 1 1")
	for _, c := range []struct{ line, want string }{
		{"formula b int = a + 1", "5"}, {"formula b int = 7", "7"}, {"formula b bool = a < 3", "false"}, {`formula b text = s & "y"`, `"xy"`}, {"formula b int = z", "!5"},
		{"formula b int = 1 / (a - 4)", "!8"}, {"formula b int = w + 1", "?"}, {"formula b int = no + w", "!14"}, {"formula b int = w + no", "!14"}, {"formula b bool = 1", "1"},
		{"formula b int = if(w, 1, 2)", "?"}, {"formula b int = if(true, 1, w)", "1"}, {"formula b bool = b or true", "true"}, {"formula b int = a & s", "!9"},
		{"formula a int = a", "4"}, {"formula b int = b", "false"}, {"formula b text = s & s & s", `"xxx"`}, {"formula b int = len(s)", "1"},
		{"formula b int = 1099511627776 + a", "!7"}, {"other b int = 1", ""},
	} {
		known := facts("a 4", "b false", `s "x"`, "w ?", "no !14", "a 5")
		if c.want == "" {
			testOne(t, field(c.line), other, other, known, api.Value{})
			continue
		}
		testOne(t, field(c.line), nil, nil, known, must(c.want))
		testOne(t, field(c.line), other, other, known, must(c.want))
	}
	testOne(t, field("formula b int = a"), nil, nil, facts("c 1", "a 4")[:1], fault(5))
	for _, x := range []api.Expr{{}, {Op: 99}, {Name: "a"}, ref("A"), node(api.Neg), tall(99, ref("a")), tall(1<<16-1, ref("a")), {Op: api.Const, V: pending}} {
		testOne(t, api.Field{Name: "b", Kind: api.Formula, Type: api.Int, Source: x}, other, other, facts("a 4"), api.Value{})
		testOne(t, api.Field{Name: "b", Kind: api.Lookup, Type: api.Int, Source: x}, other, []api.Fact{{Name: "b", Has: integer(1)}}, facts("a 4"), api.Value{})
	}
	for i, v := range values() {
		known := []api.Fact{fact("a", "4"), {Name: "z", Key: api.Value{Kind: 99}, Has: v}}
		want, own := integer(4), v
		if i >= 19 { // not valid: then no formula has a value
			want, own = api.Value{}, api.Value{}
		}
		for _, kind := range []int{api.Int, 0, 99} {
			testOne(t, api.Field{Name: "b", Kind: api.Formula, Type: kind, Source: ref("a")}, other, other, known, want)
			testOne(t, api.Field{Name: "b", Kind: api.Formula, Type: kind, Source: ref("z")}, other, other, known, own)
		}
	}
}

// TestLookup: the answer to the value of the Source as the key (P14.3).
func TestLookup(t *testing.T) {
	oracle := answers(`c 5 "ok"`, `c 4 "no"`, "c 6 !3", `d 7 "d"`, "c true 8", `c "x" false`, `c 5 "again"`, "c 0 0")
	other := answers("c 1 9", "a 1 5")
	for _, c := range []struct{ line, want string }{
		{"lookup c text = a + 1", `"ok"`}, {"lookup c text = a", `"no"`}, {"lookup c text = 6", "!3"}, {"lookup c text = 7", "?"}, {"lookup d text = 7", `"d"`},
		{"lookup c int = a < 9", "8"}, {"lookup c int = a < 1", "?"}, {"lookup c int = s", "false"}, {"lookup c int = s & s", "?"}, {"lookup z text = a", "?"},
		{"lookup c text = w", "?"}, {"lookup c text = no", "!14"}, {"lookup c text = 1 / 0", "!8"}, {"lookup c text = z", "!5"}, {"lookup c text = c", "0"},
		{"lookup c text = -w - no", "!14"}, {"lookup c text = a & a", "!9"}, {"lookup c bool = if(a = 4, 5, no)", `"ok"`}, {"other c text = 5", ""},
	} {
		known := facts("a 4", `s "x"`, "w ?", "no !14", "c 0", "a 5")
		if c.want == "" {
			testOne(t, field(c.line), other, oracle, known, api.Value{})
			continue
		}
		testOne(t, field(c.line), nil, oracle, known, must(c.want))
		testOne(t, field(c.line), other, oracle, known, must(c.want))
	}
	testOne(t, field("lookup c text = 5"), oracle, nil, nil, pending)
	testOne(t, field("lookup c text = 5"), oracle, oracle[1:1], oracle, pending)
	for i, v := range values() {
		for _, has := range values() {
			f := api.Field{Name: "c", Kind: api.Lookup, Type: api.Int, Source: ref("a")}
			want := api.Value{} // not valid: then there is no key, and the zero value takes its place
			switch {
			case i < 12: // Known
				want = has
			case i < 19:
				want = v
			}
			testOne(t, f, nil, []api.Fact{{Name: "a", Key: v}, {Name: "c", Key: v, Has: has}}, []api.Fact{{Name: "a", Has: v}}, want)
			testOne(t, f, nil, []api.Fact{{Name: "c", Has: has}, {Name: "c", Key: v, Has: has}}, []api.Fact{{Name: "a", Has: v}}, want)
		}
	}
}

// TestKinds: a field of an unknown kind has no value (P14.3).
func TestKinds(t *testing.T) {
	for _, kind := range []int{0, 4, 5, -1, 99, math.MaxInt, math.MinInt} {
		f := api.Field{Name: "a", Kind: kind, Type: api.Int, Source: number(5)}
		testOne(t, f, facts("a 4"), answers("a 5 6"), facts("a 7"), api.Value{})
	}
}

// testAll tests the values of all fields, or what is wrong.
func testAll(t *testing.T, f api.Form, inputs, oracle []api.Fact, want string, err api.Errno) {
	t.Helper()
	if e := Check(f, inputs, oracle); e != err {
		t.Errorf("Check(%s, %s, %s) = %d, want %d", shownFields(f.Fields), shownFacts(inputs), shownFacts(oracle), e, err)
	}
	l, e := All(f, inputs, oracle)
	if e != err || shownValues(l) != want {
		t.Errorf("All(%s, %s, %s) = %s, %d, want %s, %d", shownFields(f.Fields), shownFacts(inputs), shownFacts(oracle), shownValues(l), e, want, err)
	}
}

// refuse tests that something is wrong.
func refuse(t *testing.T, f api.Form, inputs, oracle []api.Fact, err api.Errno) {
	t.Helper()
	testAll(t, f, inputs, oracle, "", err)
}

// TestCheck: what is wrong with the form comes first, then what is wrong with
// the inputs, then what is wrong with the oracle (P14.4, P14.5).
func TestCheck(t *testing.T) {
	noPage, badPage, odd := form("input a int"), form("input a int"), form("input a int")
	noPage.Pages, badPage.Pages[0].Fields, odd.Fields[0].Source = nil, []string{"z"}, number(1)
	forms := map[api.Errno][]api.Form{
		api.OK:      {some(), form("lookup c text = a", "input a int", "input s text", "formula b int = -a")},
		api.ErrSize: {{}, noPage, {Fields: make([]api.Field, 1<<18)}, form(slices.Repeat([]string{"input a int"}, 15)...)},
		api.ErrForm: {odd, form("input if int", "lookup c text = 1")}, api.ErrKind: {form("input a other"), form("lookup c text")},
		api.ErrNone: {badPage, form("lookup c text = a")}, api.ErrTwice: {form("input a int", "input a int"), form("input a int", "lookup a int = a")},
		api.ErrType: {form("input a int", "formula c text = a"), form("input a int", "lookup c text = not a")},
		api.ErrCycle: {
			form("input a int", "lookup c int = c"), form("formula b int = c", "lookup c int = a", "formula a int = -b", "input s text"),
			form("input a int", "input s text", "formula b int = b"),
		},
	}
	inputs := map[api.Errno][][]api.Fact{
		api.OK: {nil, {}, facts("a 4"), facts(`s "x"`, "a -1")}, api.ErrNone: {facts("a 4", "z 1"), {{}}}, api.ErrKind: {facts(`c "x"`), facts("a 4", "b 5")},
		api.ErrType: {facts("a true"), facts("a ?"), facts("a 4", "s !3")}, api.ErrForm: {answers("a 1 4"), answers("a 0 4")}, api.ErrTwice: {facts("a 4", "a 4")},
	}
	oracles := map[api.Errno][][]api.Fact{
		api.OK: {nil, {}, answers(`c 5 "ok"`), answers("c 5 !3", `c 1 "x"`)}, api.ErrNone: {answers("z 5 5"), {{}}}, api.ErrKind: {answers("a 5 5"), answers(`c 5 ""`, "b 5 5")},
		api.ErrType: {answers("c true !3"), answers("c 5 ?"), facts(`c "ok"`)}, api.ErrTwice: {answers(`c 5 "ok"`, "c 5 !3"), answers("c 5 !3", "c 5 !3", "z 5 5")},
	}
	for wrong, list := range forms {
		for _, f := range list {
			for wrongInputs, told := range inputs {
				for wrongOracle, known := range oracles {
					want := wrong
					if want == api.OK {
						want = wrongInputs
					}
					if want == api.OK {
						want = wrongOracle
					}
					for i := range told {
						for j := range known {
							testCheck(t, f, told[i], known[j], want)
						}
					}
				}
			}
		}
	}
}

// testCheck tests what is wrong, and that nothing has values then.
func testCheck(t *testing.T, f api.Form, inputs, oracle []api.Fact, want api.Errno) {
	t.Helper()
	if want != api.OK {
		refuse(t, f, inputs, oracle, want)
		return
	}
	if e := Check(f, inputs, oracle); e != api.OK {
		t.Errorf("Check(%s, %s, %s) = %d, want 0", shownFields(f.Fields), shownFacts(inputs), shownFacts(oracle), e)
	}
	testSettled(t, f, inputs, oracle)
}

// testSettled tests that each value of a form is One by all of the values.
func testSettled(t *testing.T, f api.Form, inputs, oracle []api.Fact) {
	t.Helper()
	l, e := All(f, inputs, oracle)
	if e != api.OK || len(l) != len(f.Fields) {
		t.Errorf("All(%s, %s, %s) = %s, %d", shownFields(f.Fields), shownFacts(inputs), shownFacts(oracle), shownValues(l), e)
		return
	}
	for i, one := range f.Fields {
		var known []api.Fact
		for j, other := range f.Fields {
			if j != i {
				known = append(known, api.Fact{Name: other.Name, Has: l[j]})
			}
		}
		testOne(t, one, inputs, oracle, known, l[i])
	}
}

// TestAll: the values of forms, in the order of the fields (P14.5).
func TestAll(t *testing.T) {
	example := form("input a int", "formula b int = a + 1", "lookup c int = b")
	testAll(t, example, facts("a 4"), answers("c 5 7"), "4 5 7", api.OK)
	testAll(t, example, nil, answers("c 5 7"), "0 1 ?", api.OK)
	testAll(t, example, nil, answers("c 5 7", "c 1 !14"), "0 1 !14", api.OK)
	testAll(t, example, facts("a 1099511627776"), answers("c 5 7"), "1099511627776 !7 !7", api.OK)
	testAll(t, form(), nil, nil, "", api.OK)
	testAll(t, form("input a int", "input b bool", "input s text"), nil, nil, `0 false ""`, api.OK)
	testAll(t, form("input a int", "input b bool", "input s text"), facts(`s "x"`, "b true", "a -9"), nil, `-9 true "x"`, api.OK)
	testAll(t, form("formula c bool = b", "formula b bool = a", "input a bool"), facts("a true"), nil, "true true true", api.OK)
	testAll(t, form("lookup c int = b", "lookup b int = a", "lookup a int = 1"), nil, answers("c 3 4", "a 1 2", "b 2 3"), "4 3 2", api.OK)
	testAll(t, form("lookup c int = b", "lookup b int = a", "lookup a int = 1"), nil, answers("c 3 4", "a 1 2"), "? ? 2", api.OK)
	testAll(t, form("lookup c int = b", "lookup b int = a", "lookup a int = 1"), nil, answers("c 3 4", "a 1 2", "b 2 !6"), "!6 !6 2", api.OK)
	testAll(t, form("lookup a int = 1", "lookup b int = 1", `lookup c int = ""`), nil, answers("b 1 5", `c "" 7`), "? 5 7", api.OK)
	testAll(t, form("lookup a int = 1 / 0", "formula b int = a + 1", "formula c bool = true or b < a"), nil, nil, "!8 !8 true", api.OK)
	testAll(t, form("lookup a bool = 1", "formula b int = if(a, 1, 2)", "formula c bool = a and false", "formula d bool = false and a"), nil, nil, "? ? ? false", api.OK)
	testAll(t, some(), nil, nil, `1 0 ? false false ? "" "none" ?`, api.OK)
	told, oracle := facts(`s "k"`, "yes true", "a 4"), answers(`c 5 "ok"`, `c 1 "no"`, `e "kok" 3`, `e "kno" 2`, "v false true", "v true !14")
	testAll(t, some(), told, oracle, `5 4 "ok" true true 3 "k" "ok" true`, api.OK)
	testAll(t, some(), told[:2], oracle, `1 0 "no" true false 2 "k" "none" !14`, api.OK)
	testAll(t, some(), told[1:], oracle, `5 4 "ok" true ? ? "" ? ?`, api.OK)
	testAll(t, some(), told, answers("c 5 !14"), `5 4 !14 true !14 !14 "k" !14 !14`, api.OK)
}

// TestLimits: as many fields as there can be, each of which depends on the one
// behind it (P14.5).
func TestLimits(t *testing.T) {
	var lines, want []string
	var l []api.Fact
	for i := range api.MaxFields - 1 {
		kind := []string{"formula", "lookup"}[i%2]
		lines = append(lines, fmt.Sprintf("%s a%d int = a%d + 1", kind, i, i+1))
	}
	f := form(append(lines, "input a13 int")...)
	for i, n := 12, 100; i >= 0; i-- {
		n++
		if i%2 == 1 {
			l = append(l, api.Fact{Name: "a" + strconv.Itoa(i), Key: integer(n), Has: integer(n - 50)})
			n -= 50
		}
		want = append([]string{strconv.Itoa(n)}, want...)
	}
	testAll(t, f, facts("a13 100"), l, strings.Join(want, " ")+" 100", api.OK)
	testAll(t, f, facts("a13 100"), append(answers("a1 7 7"), l[1:]...), strings.TrimSuffix(strings.Repeat("? ", 12), " ")+" 101 100", api.OK)
	for i := range 1 << 17 {
		l = append(l, api.Fact{Name: "a1", Key: integer(10000 + i), Has: fault(14)})
	}
	testAll(t, f, facts("a13 100"), l, strings.Join(want, " ")+" 100", api.OK)
	testAll(t, f, facts("a13 "+strconv.Itoa(10000+250-12)), append(l, l[9]), "", api.ErrTwice)
	f.Fields = append(f.Fields, field("input b int"))
	refuse(t, f, facts("a13 100"), l, api.ErrSize)
}

// samples of fields.
func samples() []string {
	return []string{
		"input a int", "input b bool", "input c int", "formula a int = b", "formula b bool = not c", "formula c bool = a < 3", "formula b int = c * 2 + c",
		"lookup b int = a", "lookup a bool = c", "lookup c int = if(b, a, 2)", "lookup a int = b", "formula c int = 7 / a", "lookup c bool = 1 = a",
		"formula d bool = b and c or a", "lookup d int = c", "formula d int = if(true, a, b)",
	}
}

// testSamples tests the values of a form of samples, with and without inputs
// and an oracle.
func testSamples(t *testing.T, f api.Form) {
	told := map[string][]api.Fact{
		"a1": facts("a 1"), "a2": facts("a 2"), "b2": facts("b true"), "c1": facts("c 0"), "c2": facts("c true"),
	}
	var inputs, oracle []api.Fact
	for _, one := range f.Fields {
		if one.Kind == api.Input {
			inputs = append(inputs, told[one.Name+strconv.Itoa(one.Type)]...)
		}
		kind, e := typing.Of(one.Source, f.Fields)
		if one.Kind != api.Lookup || e != api.OK {
			continue
		}
		for n := range 2 {
			oracle = append(oracle, api.Fact{Name: one.Name, Key: api.Value{Kind: kind, N: n}, Has: api.Value{Kind: one.Type, N: 1 - n}})
		}
		if kind == api.Int {
			oracle = append(oracle, api.Fact{Name: one.Name, Key: integer(2), Has: fault(14)})
		}
	}
	testSettled(t, f, nil, nil)
	testSettled(t, f, inputs, nil)
	testSettled(t, f, nil, oracle)
	testSettled(t, f, inputs, oracle)
	testExpected(t, f, inputs, oracle)
}

// testExpected tests the values of a form against those that are computed again
// and again until no one changes.
func testExpected(t *testing.T, f api.Form, inputs, oracle []api.Fact) {
	known := map[string]api.Value{}
	for range f.Fields {
		for _, one := range f.Fields {
			known[one.Name] = expected(one, inputs, oracle, known)
		}
	}
	var want []string
	for _, one := range f.Fields {
		want = append(want, shownValue(known[one.Name]))
	}
	testAll(t, f, inputs, oracle, strings.Join(want, " "), api.OK)
}

// expected value of a field by some values of others.
func expected(one api.Field, inputs, oracle []api.Fact, known map[string]api.Value) api.Value {
	if one.Kind == api.Input {
		i := slices.IndexFunc(inputs, func(f api.Fact) bool { return f.Name == one.Name })
		if i < 0 {
			return api.Value{Kind: one.Type}
		}
		return inputs[i].Has
	}
	var l []api.Fact
	for name, v := range known {
		l = append(l, api.Fact{Name: name, Has: v})
	}
	v, e := eval.Of(one.Source, l)
	if e != api.OK {
		panic("there is no value of a Source")
	}
	if one.Kind == api.Formula || v.Kind == api.Pending || v.Kind == api.Fault {
		return v
	}
	i := slices.IndexFunc(oracle, func(f api.Fact) bool { return f.Name == one.Name && f.Key == v })
	if i < 0 {
		return pending
	}
	return oracle[i].Has
}

// TestMany: all forms of up to four fields of samples (P14.5).
func TestMany(t *testing.T) {
	lists := [][]string{nil}
	found := map[api.Errno]int{}
	for i := 0; i < len(lists); i++ {
		f := form(lists[i]...)
		e := sheet.Check(f)
		if found[e]++; e == api.OK {
			testSamples(t, f)
		} else {
			refuse(t, f, nil, nil, e)
			refuse(t, f, facts("z 1"), answers("z 1 1"), e)
		}
		for _, line := range samples() {
			if len(lists[i]) < 4 {
				lists = append(lists, append(slices.Clip(lists[i]), line))
			}
		}
	}
	for _, e := range []api.Errno{api.OK, api.ErrTwice, api.ErrNone, api.ErrType, api.ErrCycle} {
		if found[e] < 200 {
			t.Errorf("the forms are too much alike: %v", found)
		}
	}
}

// roomyList is a copy of a list, with unused capacity that has something in it.
func roomyList[T any](l []T, unused T) []T {
	all := slices.Repeat([]T{unused}, len(l)+2)
	copy(all, l)
	return all[:len(l)]
}

// roomy is a copy of a formula, with unused capacity like that.
func roomy(x api.Expr) api.Expr {
	x.Args = roomyList(x.Args, ref("unused"))
	for i, arg := range x.Args {
		x.Args[i] = roomy(arg)
	}
	return x
}

// roomyForm is a copy of a form, with unused capacity like that.
func roomyForm(f api.Form) api.Form {
	f.Fields, f.Pages = roomyList(f.Fields, field("lookup unused int = a + b")), roomyList(f.Pages, api.Page{Name: "unused", Skip: ref("unused")})
	for i := range f.Fields {
		f.Fields[i].Source = roomy(f.Fields[i].Source)
	}
	for i, p := range f.Pages {
		f.Pages[i].Fields = roomyList(p.Fields, "unused")
	}
	return f
}

// allOf a list, with what is in its unused capacity.
func allOf[T any](l []T) []T { return slices.Clone(l[:cap(l)]) }

// allOfFormula is a formula with what is in its unused capacity.
func allOfFormula(x api.Expr) api.Expr {
	x.Args = allOf(x.Args)
	for i, arg := range x.Args {
		x.Args[i] = allOfFormula(arg)
	}
	return x
}

// allOfForm is a form with what is in its unused capacity.
func allOfForm(f api.Form) api.Form {
	f.Fields, f.Pages = allOf(f.Fields), allOf(f.Pages)
	for i := range f.Fields {
		f.Fields[i].Source = allOfFormula(f.Fields[i].Source)
	}
	for i, p := range f.Pages {
		f.Pages[i].Fields = allOf(p.Fields)
	}
	return f
}

// TestArguments: arguments stay as they are, by each call.
func TestArguments(t *testing.T) {
	unused := answer("c", "9", "9")
	f, wrong := roomyForm(some()), roomyForm(form("input a int", "input a int", "lookup c text = a"))
	inputs, oracle := roomyList(facts("a 4", "yes true"), unused), roomyList(answers(`c 5 "ok"`, `e "ok" 3`), unused)
	known := roomyList(facts("a 4", "d true", `s "x"`, "b 5"), unused)
	before, beforeWrong := allOfForm(f), allOfForm(wrong)
	beforeInputs, beforeOracle, beforeKnown := allOf(inputs), allOf(oracle), allOf(known)
	calls := []func(){
		func() { Oracle(f, oracle) }, func() { Oracle(wrong, oracle) }, func() { Oracle(f, oracle[:3]) }, func() { Asked(oracle, "c", integer(5)) },
		func() { Asked(oracle, "z", integer(5)) }, func() { Check(f, inputs, oracle) }, func() { Check(wrong, inputs, oracle) }, func() { All(f, inputs, oracle) },
		func() { All(wrong, inputs, oracle) }, func() { All(f, inputs[:0], oracle[:0]) }, func() { All(f, inputs[:3], oracle) },
	}
	for _, one := range f.Fields {
		calls = append(calls, func() { One(one, inputs, oracle, known) }, func() { One(one, inputs[:0], oracle[:0], known[:0]) })
	}
	for i, call := range calls {
		call()
		if !reflect.DeepEqual(allOfForm(f), before) || !reflect.DeepEqual(allOfForm(wrong), beforeWrong) {
			t.Fatalf("call %d changed the forms %s, %s", i, shownFields(f.Fields), shownFields(wrong.Fields))
		}
		if !slices.Equal(allOf(inputs), beforeInputs) || !slices.Equal(allOf(oracle), beforeOracle) || !slices.Equal(allOf(known), beforeKnown) {
			t.Fatalf("call %d changed the facts %s, %s, %s", i, shownFacts(inputs), shownFacts(oracle), shownFacts(known))
		}
	}
}

// TestResults: nothing is kept between calls, and the lists are new memory.
func TestResults(t *testing.T) {
	f, inputs, oracle := some(), facts("a 4"), answers(`c 5 "ok"`)
	want := `5 4 "ok" false false ? "" "none" ?`
	var results [][]api.Value
	for range 3 {
		testAll(t, f, inputs, oracle, want, api.OK)
		testAll(t, f, facts("a 5", `s "x"`), nil, `6 5 ? false false ? "x" "none" ?`, api.OK)
		refuse(t, f, append(inputs, inputs[0]), oracle, api.ErrTwice)
		testOracle(t, f, oracle, api.OK)
		testAsked(t, oracle, "c", integer(5), text("ok"))
		l, _ := All(f, inputs, oracle)
		results = append(results, l)
	}
	for i, l := range results {
		if shownValues(l) != want {
			t.Errorf("result %d is now %s", i, shownValues(l))
		}
		l = l[:cap(l)]
		for j := range l { // this changes no other result
			l[j] = integer(99)
		}
	}
}
