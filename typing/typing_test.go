package typing

import (
	"math"
	"reflect"
	"slices"
	"strings"
	"testing"

	"lychway/api"
	"lychway/expr"
)

// missing is a name that no field has.
const missing = "none"

// Types that no value has, but an invalid field may have.
var strangeTypes = []int{0, api.Pending, api.Fault, 6, -1, math.MinInt, math.MaxInt}

// ref and constant are formulas of one node, and node has Args.
func ref(name string) api.Expr            { return api.Expr{Op: api.Ref, Name: name} }
func constant(v api.Value) api.Expr       { return api.Expr{Op: api.Const, V: v} }
func node(op int, l ...api.Expr) api.Expr { return api.Expr{Op: op, Args: l} }

// read is the formula of a notation.
func read(t *testing.T, s string) api.Expr {
	t.Helper()
	x, at, e := expr.Parse(s)
	if e != api.OK {
		t.Fatalf("Parse(%q) = %d, %d", s, at, e)
	}
	return x
}

// tall is a formula with n nodes above the last one.
func tall(op, n int, last api.Expr) api.Expr {
	for range n {
		last = node(op, last)
	}
	return last
}

// large is a formula of an odd number of nodes without much depth.
func large(n int, leaf api.Expr) api.Expr {
	if n < 3 {
		return leaf
	}
	left := (n - 1) / 2
	left -= 1 - left%2 // each part has an odd number, too
	return node(api.Sub, large(left, leaf), large(n-1-left, leaf))
}

// fields are those of all kinds and types, not in the order of their names.
func fields() []api.Field {
	return []api.Field{
		{Name: "t", Kind: api.Lookup, Type: api.Text, Source: ref("j")},
		{Name: "i", Kind: api.Input, Type: api.Int},
		{Name: "b", Kind: api.Formula, Type: api.Bool, Source: node(api.Less, ref("i"), ref("j"))},
		{Name: "j", Kind: api.Formula, Type: api.Int, Source: node(api.Len, ref("u"))},
		{Name: "c", Kind: api.Input, Type: api.Bool},
		{Name: "u", Kind: api.Input, Type: api.Text},
	}
}

// testOf tests the type of a formula, and that Fits agrees, whatever is wanted.
func testOf(t *testing.T, x api.Expr, l []api.Field, want int) {
	t.Helper()
	if kind, e := Of(x, l); kind != want || e != api.OK {
		t.Errorf("Of(%.99v) = %d, %d, want %d", x, kind, e, want)
	}
	for _, kind := range append([]int{api.Int, api.Bool, api.Text, want, want + 1, want - 1}, strangeTypes...) {
		e := Fits(x, l, kind)
		if kind == want && e != api.OK || kind != want && e != api.ErrType {
			t.Errorf("Fits(%.99v, %d) = %d, but the type is %d", x, kind, e, want)
		}
	}
}

// testError tests that a formula has no type, whatever is wanted.
func testError(t *testing.T, x api.Expr, l []api.Field, want api.Errno) {
	t.Helper()
	if kind, e := Of(x, l); kind != 0 || e != want {
		t.Errorf("Of(%.99v) = %d, %d, want 0, %d", x, kind, e, want)
	}
	for _, kind := range append([]int{api.Int, api.Bool, api.Text}, strangeTypes...) {
		if e := Fits(x, l, kind); e != want {
			t.Errorf("Fits(%.99v, %d) = %d, want %d", x, kind, e, want)
		}
	}
}

// TestNotations: the types of formulas as they are written (P6.1, P6.2).
func TestNotations(t *testing.T) {
	for want, list := range map[int][]string{
		api.Int: {
			"0", "1099511627776", "i", "j", "-i", "--7", "-len(t)", "i * j", "i / 2", "7 % i", "i + j * 2",
			"i - 1 - j", "len(t)", `len("")`, "len(t & u)", "if(b, i, j)", "if(true, 1, -i)",
			"if(i < j, len(t), if(c, i, 2))", "if(b and c, 1, 2) + 3", "i / 0",
		},
		api.Bool: {
			"true", "false", "b", "c", "not b", "not not true", "b and c", "b or c or false", "i < j", "i < 3",
			"i <= j", "i = j", "i != j", "b < c", "b <= true", "b = c", "b != not c", "t < u", `t <= "x"`,
			"t = u", `"" != ""`, "(i < j) = (t < u)", "(i = j) < b", "if(b, c, true)",
			"if(b, b, b) and not (i = 1 or t = u)", "not if(c, b, c)", "len(t) = i",
		},
		api.Text: {
			`""`, `"true"`, `"7"`, "t", "u", "t & u", `t & "x" & u`, "if(b, t, u)", `if(i = j, "a", "b")`,
			`if(t = u, if(b, t, u), "") & t`,
		},
	} {
		for _, s := range list {
			testOf(t, read(t, s), fields(), want)
		}
	}
}

// TestNotationErrors: operands of wrong types, and missing fields (P6.1, P6.2).
func TestNotationErrors(t *testing.T) {
	for want, list := range map[api.Errno][]string{
		api.ErrType: {
			"-b", "-t", "not i", "not t", "i * b", "t * t", "b + c", "t + u", "i - t", "b / i", "i % t",
			"i & i", `i & "x"`, `"x" & i`, "b & t", "len(i)", "len(b)", "b and i", "i and b", "t or t",
			"true or 1", "i < b", "i <= t", "t = b", "b != i", `7 = "7"`, "true = 1", `"" = false`,
			"if(i, 1, 2)", "if(t, 1, 2)", "if(b, 1, t)", "if(b, i, c)", "if(b, t, 1)", "if(i, 1, t)",
			"(i < j) < i", "len(t) & t", "if(b, i, j) and b", "not i < j", "i + (t = u)", "- - b",
			"i < (t & 1)", "if(b, 1, 2 + true)", "if(true, 1, t)", "false and i",
		},
		api.ErrNone: {
			"none", "-none", "not none", "len(none)", "i + none", "none + i", "t & none", "none = none",
			"none and b", "true or none", "if(none, 1, 2)", "if(true, 1, none)", "if(false, none, 2)",
			"a", "ii", "i1", "tt", "i + (j + (i + none))",
		},
	} {
		for _, s := range list {
			testError(t, read(t, s), fields(), want)
		}
	}
}

// TestFirstError: in postorder the first one counts, which is not the nearest
// to the root, nor always a missing field (P6.1).
func TestFirstError(t *testing.T) {
	for want, list := range map[api.Errno][]string{
		api.ErrType: {
			"(i + b) + none", "-b + none", "(t & 1) = none", "if(not i, none, 1)", "if(1 + t, none, none)",
			"if(b, len(i), none)", "if(i, -t, none)", "not (b and 1) and none", "len(-t) + none",
			"(i < t) + (none + 1)", "if(b, 1, 2 + t) + none",
		},
		api.ErrNone: {
			"none + (i + b)", "none + -b", "none = (t & 1)", "t + none", "b * none", "i and none", "none and i",
			"if(i, none, 1)", "if(i, 1, none)", "if(none, -t, not i)", "if(t, 1, none)", "-none + (i + b)",
			"if(b, none, len(i))", "if(i, t, none)", "b = (1 + none)", "len(none + t)",
		},
	} {
		for _, s := range list {
			testError(t, read(t, s), fields(), want)
		}
	}
}

// signatures are the rules as the chapter has them, each written out for all
// types: of the operands, and of the result behind them. An x is any type that
// no value has.
var signatures = map[int]string{
	api.Neg: "ii", api.Mul: "iii", api.Div: "iii", api.Mod: "iii", api.Add: "iii", api.Sub: "iii",
	api.Not: "bb", api.And: "bbb", api.Or: "bbb",
	api.Join: "ttt", api.Len: "ti",
	api.Less: "iib bbb ttb xxb", api.AtMost: "iib bbb ttb xxb",
	api.Same: "iib bbb ttb xxb", api.Other: "iib bbb ttb xxb",
	api.If: "biii bbbb bttt bxxx",
}

// byLetter are fields that are named by their types.
func byLetter(x int) []api.Field {
	return []api.Field{
		{Name: "x", Kind: api.Input, Type: x},
		{Name: "t", Kind: api.Input, Type: api.Text},
		{Name: "i", Kind: api.Input, Type: api.Int},
		{Name: "b", Kind: api.Input, Type: api.Bool},
	}
}

// lists of n letters.
func lists(letters string, n int) []string {
	if n == 0 {
		return []string{""}
	}
	var all []string
	for _, list := range lists(letters, n-1) {
		for _, letter := range letters {
			all = append(all, list+string(letter))
		}
	}
	return all
}

// result of an operator for operands of these types: a letter, or none.
func result(op int, operands string) string {
	for s := range strings.FieldsSeq(signatures[op]) {
		if s[:len(s)-1] == operands {
			return s[len(s)-1:]
		}
	}
	return ""
}

// TestOperators: each operator with operands of all types, be they types of
// values or not (P6.1, P6.2).
func TestOperators(t *testing.T) {
	for op := api.Neg; op <= api.Len; op++ {
		for _, x := range strangeTypes {
			types := map[string]int{"i": api.Int, "b": api.Bool, "t": api.Text, "x": x}
			count := len(strings.Fields(signatures[op])[0]) - 1
			for _, operands := range lists("ibtx", count) {
				formula := api.Expr{Op: op}
				for _, letter := range operands {
					formula.Args = append(formula.Args, ref(string(letter)))
				}
				if want := result(op, operands); want != "" {
					testOf(t, formula, byLetter(x), types[want])
				} else {
					testError(t, formula, byLetter(x), api.ErrType)
				}
			}
		}
	}
	l := []api.Field{{Name: "x", Type: 0}, {Name: "y", Type: 9}}
	testError(t, node(api.Same, ref("x"), ref("y")), l, api.ErrType)
	testError(t, node(api.If, read(t, "true"), ref("x"), ref("y")), l, api.ErrType)
	testError(t, node(api.If, ref("x"), ref("x"), ref("x")), l, api.ErrType)
}

// TestConstants: a Const has the type of its value, whatever that is (P6.1).
func TestConstants(t *testing.T) {
	for _, l := range [][]api.Field{nil, {}, fields(), {{}}} {
		for _, n := range []int{0, 1, 2, 3, 4, 5, 99, api.MaxNumber} {
			testOf(t, constant(api.Value{Kind: api.Int, N: n}), l, api.Int)
		}
		for n := range 2 {
			testOf(t, constant(api.Value{Kind: api.Bool, N: n}), l, api.Bool)
		}
		for _, s := range []string{"", "i", "1", "true", strings.Repeat("~", api.MaxText)} {
			testOf(t, constant(api.Value{Kind: api.Text, S: s}), l, api.Text)
		}
	}
}

// byStack is the type, or the error, of a formula by a stack of letters, on
// which its nodes work in postorder until one of them finds an error.
func byStack(x api.Expr) (string, api.Errno) {
	stack := ""
	for _, y := range postorder(x) {
		from := len(stack) - len(y.Args)
		next := ""
		switch y.Op {
		case api.Const:
			next = " ibt"[y.V.Kind : y.V.Kind+1]
		case api.Ref:
			next = y.Name
		default:
			next = result(y.Op, stack[from:])
		}
		if next == missing {
			return "", api.ErrNone
		}
		if next == "" {
			return "", api.ErrType
		}
		stack = stack[:from] + next
	}
	return stack, api.OK
}

// postorder of the nodes of a formula.
func postorder(x api.Expr) []api.Expr {
	var l []api.Expr
	for _, arg := range x.Args {
		l = append(l, postorder(arg)...)
	}
	return append(l, x)
}

// pairs are all formulas of a binary operator.
func pairs(op int, left, right []api.Expr) []api.Expr {
	var l []api.Expr
	for _, a := range left {
		for _, b := range right {
			l = append(l, node(op, a, b))
		}
	}
	return l
}

// choices are all Ifs.
func choices(first, second, third []api.Expr) []api.Expr {
	var l []api.Expr
	for _, a := range first {
		for _, b := range second {
			for _, c := range third {
				l = append(l, node(api.If, a, b, c))
			}
		}
	}
	return l
}

// TestPostorder: formulas of depth 3 against a stack (P6.1, P6.2).
func TestPostorder(t *testing.T) {
	leaves := []api.Expr{ref("i"), read(t, "true"), read(t, `"i"`), ref("x"), ref(missing)}
	binary := []int{api.Mul, api.Join, api.Other, api.Or}
	low := slices.Clone(leaves)
	for _, op := range binary {
		low = append(low, pairs(op, leaves, leaves)...)
	}
	for _, leaf := range leaves {
		low = append(low, node(api.Neg, leaf), node(api.Not, leaf), node(api.Len, leaf))
	}
	few := []api.Expr{ref("b"), ref("t"), ref(missing)}
	ifs := choices(leaves, leaves, leaves)
	good := slices.DeleteFunc(slices.Concat(low, ifs), func(x api.Expr) bool {
		_, e := byStack(x)
		return e != api.OK
	})
	all := slices.Concat(ifs, choices(low, few, low), choices(few, low, low), choices(low, low, few), choices(good, good, good))
	for _, op := range binary {
		all = append(all, pairs(op, low, low)...)
		all = append(all, pairs(op, good, good)...)
		all = append(all, pairs(op, ifs, leaves)...)
		all = append(all, pairs(op, leaves, ifs)...)
	}
	found := map[api.Errno]int{}
	for _, x := range all {
		found[testByStack(t, x)]++
	}
	if len(found) != 3 || found[api.OK] < 1000 || found[api.ErrNone] < 1000 || found[api.ErrType] < 1000 {
		t.Errorf("%d formulas are too much alike: %v", len(all), found)
	}
}

// testByStack tests a formula against a stack, which finds this error in it.
func testByStack(t *testing.T, x api.Expr) api.Errno {
	t.Helper()
	const strange = 99
	l, types := byLetter(strange), map[string]int{"i": api.Int, "b": api.Bool, "t": api.Text, "x": strange}
	letter, wrong := byStack(x)
	if kind, e := Of(x, l); kind != types[letter] || e != wrong {
		t.Fatalf("Of(%v) = %d, %d, want %q, %d", x, kind, e, letter, wrong)
	}
	for _, want := range types {
		e := wrong
		if e == api.OK && want != types[letter] {
			e = api.ErrType
		}
		if got := Fits(x, l, want); got != e {
			t.Fatalf("Fits(%v, %d) = %d, want %d", x, want, got, e)
		}
	}
	return wrong
}

// TestFirstField: the first field with a name counts, whatever else it is, and
// only its Type (P6.1).
func TestFirstField(t *testing.T) {
	l := []api.Field{
		{Name: "b", Type: api.Bool}, {Name: "a", Type: api.Text}, {Name: "a", Kind: api.Input, Type: api.Int},
		{Name: "b", Type: api.Int}, {Name: "a", Type: api.Bool},
	}
	testOf(t, ref("a"), l, api.Text)
	testOf(t, ref("b"), l, api.Bool)
	testOf(t, ref("a"), l[2:], api.Int)
	testOf(t, ref("b"), l[1:], api.Int)
	testOf(t, ref("a"), l[3:], api.Bool)
	testError(t, ref("b"), l[4:], api.ErrNone)
	testError(t, read(t, "a + 1"), l, api.ErrType)
	testOf(t, read(t, "a + 1"), l[2:], api.Int)
	for _, kind := range []int{api.Input, api.Formula, api.Lookup, 0, 4, -1, math.MaxInt} {
		for _, source := range []api.Expr{{}, ref("a"), ref(missing), read(t, "true"), tall(api.Neg, 99, ref("a"))} {
			for _, own := range append([]int{api.Int, api.Bool, api.Text}, strangeTypes...) {
				testOf(t, ref("a"), []api.Field{{Name: "a", Kind: kind, Type: own, Source: source}}, own)
			}
		}
	}
	var many []api.Field
	for range 1 << 16 {
		many = append(many, api.Field{Name: "a", Type: api.Text}, api.Field{Name: ""})
	}
	testOf(t, ref("b"), append(many, api.Field{Name: "b", Type: api.Bool}), api.Bool)
	testError(t, ref("b"), many, api.ErrNone)
}

// TestNames: a name is that of a field as a whole (P6.1).
func TestNames(t *testing.T) {
	for _, other := range []string{"", "A", "a ", " a", "aa", "a\x00", "b", "a1", "é", strings.Repeat("a", 11)} {
		testError(t, ref("a"), []api.Field{{Name: other, Type: api.Int}}, api.ErrNone)
	}
	testError(t, ref("ab"), []api.Field{{Name: "a", Type: api.Int}, {Name: "b"}}, api.ErrNone)
	testError(t, ref("a"), nil, api.ErrNone)
	testError(t, ref("a"), []api.Field{}, api.ErrNone)
	testError(t, ref("a"), append(fields(), api.Field{Name: "a"})[:6], api.ErrNone)
	testOf(t, ref("a123456789"), []api.Field{{Name: "a12345678"}, {Name: "a123456789", Type: 2}}, api.Bool)
	for _, name := range []string{"", "A", "if", "len", "a b", strings.Repeat("a", 11)} { // invalid even as those of fields
		testError(t, ref(name), []api.Field{{Name: name, Type: api.Int}}, api.ErrForm)
	}
}

// TestInvalid: the errors of expr.Check, before all others (P6.1, P6.2).
func TestInvalid(t *testing.T) {
	for want, list := range map[api.Errno][]api.Expr{
		api.ErrSize: {
			large(61, ref("i")), large(61, ref(missing)), large(61, ref("b")), tall(api.Not, 60, ref("i")),
			tall(api.Neg, 1<<16-1, ref("i")), {Args: make([]api.Expr, 1<<20)}, large(1<<16+1, ref("i")),
		},
		api.ErrRange: {
			tall(api.Neg, 12, ref("i")), tall(api.Neg, 59, ref(missing)), tall(api.Neg, 12, ref("b")),
			node(0, tall(api.Neg, 11, ref("i"))), node(api.Add, ref("t"), tall(api.Neg, 11, ref("i"))),
		},
		api.ErrKind: {
			{}, {Op: -1}, {Op: 19}, {Op: math.MaxInt}, {Op: math.MinInt}, node(api.Neg, api.Expr{Op: 19, Name: "i"}),
			node(api.Add, ref(missing), node(0)), node(api.Add, ref("b"), node(0)), node(api.If, ref("i"), ref("t"), node(99)),
			node(api.Add, tall(api.Neg, 3, ref("t")), node(-2, ref(missing))),
		},
		api.ErrForm: {
			node(api.Add, ref("i")), node(api.Neg), node(api.Len), node(api.If, ref("b"), ref("i")), node(api.And),
			node(api.Not, ref("b"), ref("b")), node(api.Less, ref("i"), ref("i"), ref("i")), node(api.Ref), {Op: api.Const},
			{Op: api.Ref, Name: "i", Args: []api.Expr{ref("i")}}, {Op: api.Ref, Name: "i", V: api.Value{Kind: api.Int}},
			{Op: api.Neg, Name: "i", Args: []api.Expr{ref("i")}}, constant(api.Value{Kind: api.Pending}),
			constant(api.Value{Kind: api.Fault, N: 5}), constant(api.Value{Kind: api.Int, N: -1}),
			constant(api.Value{Kind: api.Bool, N: 2}), constant(api.Value{Kind: api.Text, S: "\n"}),
			node(api.Add, ref(missing), constant(api.Value{})), node(api.Add, ref("t"), ref("I")),
			node(api.If, ref("i"), ref(missing), node(api.Len)), node(api.Or, ref("i"), node(api.Add, ref("i"))),
		},
	} {
		for _, x := range list {
			testError(t, x, fields(), want)
			testError(t, x, nil, want)
		}
	}
	round := []api.Expr{{Op: api.Neg}}
	round[0].Args = round
	testError(t, round[0], fields(), api.ErrSize)
}

// TestLimits: formulas as large and as deep as can be (P6.1).
func TestLimits(t *testing.T) {
	testOf(t, large(59, ref("i")), fields(), api.Int)
	testOf(t, node(api.Neg, large(59, ref("j"))), fields(), api.Int)
	testOf(t, tall(api.Neg, 11, ref("i")), fields(), api.Int)
	testOf(t, tall(api.Not, 11, ref("b")), fields(), api.Bool)
	testError(t, node(api.Neg, large(59, ref(missing))), fields(), api.ErrNone)
	testError(t, node(api.Not, large(59, ref("i"))), fields(), api.ErrType)
	testError(t, node(api.Sub, large(57, ref("i")), node(api.Len, ref("u"))), nil, api.ErrNone)
	testOf(t, node(api.Sub, large(57, ref("i")), node(api.Len, ref("u"))), fields(), api.Int)
	testError(t, node(api.Sub, large(57, ref("i")), node(api.Len, ref("j"))), fields(), api.ErrType)
	testError(t, tall(api.Neg, 11, ref("b")), fields(), api.ErrType)
	testError(t, tall(api.Neg, 11, ref(missing)), fields(), api.ErrNone)
}

// TestFits: a type that is wanted, and one that no value has (P6.2).
func TestFits(t *testing.T) {
	for _, c := range []struct {
		formula string
		want    int
		e       api.Errno
	}{
		{"t", api.Text, api.OK}, {"t", api.Int, api.ErrType}, {"i < 3", api.Bool, api.OK}, {"i < 3", api.Int, api.ErrType},
		{"i", api.Int, api.OK}, {"i", api.Bool, api.ErrType}, {"i", 0, api.ErrType}, {"i", 99, api.ErrType},
		{"i", api.Pending, api.ErrType}, {`i & "x"`, api.Text, api.ErrType}, {"none", api.Int, api.ErrNone},
		{"none", 0, api.ErrNone}, {"none", 99, api.ErrNone}, {"i + t", 0, api.ErrType}, {"x", 99, api.OK},
		{"x", api.Int, api.ErrType}, {"x < x", api.Bool, api.OK}, {"if(b, x, x)", 99, api.OK},
	} {
		l := append(fields(), api.Field{Name: "x", Type: 99})
		if e := Fits(read(t, c.formula), l, c.want); e != c.e {
			t.Errorf("Fits(%q, %d) = %d, want %d", c.formula, c.want, e, c.e)
		}
	}
}

// twin of a formula, with unused capacity that has something in it.
func twin(x api.Expr) api.Expr {
	l := make([]api.Expr, 0, len(x.Args)+2)
	for _, arg := range x.Args {
		l = append(l, twin(arg))
	}
	for i := len(l); i < cap(l); i++ {
		l[:cap(l)][i] = ref("unused")
	}
	x.Args = l
	return x
}

// whole of a formula: also what is in its unused capacity.
func whole(x api.Expr) api.Expr {
	l := make([]api.Expr, cap(x.Args))
	for i, arg := range x.Args[:cap(x.Args)] {
		l[i] = whole(arg)
	}
	x.Args = l
	return x
}

// TestMemory: arguments stay as they are, and nothing is kept between calls.
func TestMemory(t *testing.T) {
	for _, s := range []string{"i + j * 2", "if(b, t & u, none)", "not (i = j)", "-b", "if(c, 1, len(t))"} {
		x, l := twin(read(t, s)), append(make([]api.Field, 0, 9), fields()...)
		for i := range l {
			l[i].Source = twin(l[i].Source)
		}
		l[:9][8] = api.Field{Name: missing, Type: api.Text}
		formula, list := whole(x), slices.Clone(l[:9])
		for i := range list {
			list[i].Source = whole(list[i].Source)
		}
		kind, e := Of(x, l)
		for range 9 {
			if again, f := Of(x, l); again != kind || f != e {
				t.Errorf("Of(%q) = %d, %d, but then %d, %d", s, kind, e, again, f)
			}
			Fits(x, l, kind)
			Of(read(t, "t"), nil)
		}
		after := slices.Clone(l[:9])
		for i := range after {
			after[i].Source = whole(after[i].Source)
		}
		if !reflect.DeepEqual(whole(x), formula) || !reflect.DeepEqual(after, list) {
			t.Errorf("Of(%q) changed its arguments", s)
		}
	}
}
