package fold

import (
	"math"
	"reflect"
	"slices"
	"strconv"
	"strings"
	"testing"

	"lychway/api"
	"lychway/eval"
	"lychway/expr"
	"lychway/value"
)

// ref and constant are formulas of one node, and node has Args.
func ref(name string) api.Expr            { return api.Expr{Op: api.Ref, Name: name} }
func number(n int) api.Value              { return api.Value{Kind: api.Int, N: n} }
func boolean(n int) api.Value             { return api.Value{Kind: api.Bool, N: n} }
func text(s string) api.Value             { return api.Value{Kind: api.Text, S: s} }
func node(op int, l ...api.Expr) api.Expr { return api.Expr{Op: op, Args: l} }
func constantOf(v api.Value) api.Expr     { return api.Expr{Op: api.Const, V: v} }

// read is the formula of a notation.
func read(t *testing.T, s string) api.Expr {
	t.Helper()
	x, at, e := expr.Parse(s)
	if e != api.OK {
		t.Fatalf("Parse(%q) = %d, %d", s, at, e)
	}
	return x
}

// shown is the notation of a formula, or a hint at one that has none.
func shown(x api.Expr) string {
	s, e := expr.Print(x)
	if e != api.OK {
		return "an invalid formula, Op " + strconv.Itoa(x.Op) + ", error " + strconv.Itoa(int(e))
	}
	return s
}

// same: are two formulas the same, be their empty lists nil or not?
func same(x, y api.Expr) bool {
	return x.Op == y.Op && x.V == y.V && x.Name == y.Name && slices.EqualFunc(x.Args, y.Args, same)
}

// testFold tests what a formula is simplified to.
func testFold(t *testing.T, x, want api.Expr) {
	t.Helper()
	if y, e := Fold(x); !same(y, want) || e != api.OK {
		t.Errorf("Fold(%s) = %s, %d, want %s", shown(x), shown(y), e, shown(want))
	}
}

// testAll tests what formulas are simplified to, as they are written.
func testAll(t *testing.T, cases map[string][]string) {
	t.Helper()
	for want, list := range cases {
		for _, s := range list {
			y, e := Fold(read(t, s))
			if !same(y, read(t, want)) || e != api.OK {
				t.Errorf("Fold(%s) = %s, %d, want %s", s, shown(y), e, want)
			}
		}
	}
}

// unchanged tests that there is nothing to simplify.
func unchanged(t *testing.T, list ...string) {
	t.Helper()
	for _, s := range list {
		testAll(t, map[string][]string{s: {s}})
	}
}

// TestConstants: what refers to no field and has a Known value is replaced by
// it, be it of whatever type and operator (P8.1).
func TestConstants(t *testing.T) {
	testAll(t, map[string][]string{
		"7":      {"1+2*3", "(7)", "--7", "15 / 2", "15 % 8", "9 - 2", "len(\"abcdefg\")", "if(1 < 2, 7, 8)", "if(true, 7, 1 / 0)"},
		"0":      {"-0", "--0", "0 * 5", "1 - 1", "0 / 7", "7 % 7", `len("")`, "if(false, not 1, 0)"},
		"true":   {"1 < 2", "2 <= 2", "2 = 2", "1 != 2", "not false", "true and true", "false or true", "true or 1 / 0 = 1", "true or 1", `"a" < "b"`},
		"false":  {"2 < 1", "not true", "true and false", "false or false", "false and 1 / 0 = 1", `false and "a"`, "true = false", "if(true, false, 1)"},
		`"ab"`:   {`"a" & "b"`, `"" & "ab"`, `"ab" & ""`, `if(not true, 1, "a" & "b")`},
		`""`:     {`"" & ""`, `if(1 = 1, "", 1)`},
		`"\"\\"`: {`"\"" & "\\"`}, "1099511627776": {"1099511627775 + 1", "1048576 * 1048576", "--1099511627776"},
	})
	long := strings.Repeat("x", 39)
	testFold(t, read(t, `"y" & "`+long+`"`), constantOf(text("y"+long)))
	for _, v := range []api.Value{number(0), number(api.MaxNumber), boolean(0), boolean(1), text(""), text(long + "~")} {
		testFold(t, constantOf(v), constantOf(v))
		testFold(t, node(api.If, constantOf(boolean(1)), constantOf(v), node(api.Neg, constantOf(boolean(1)))), constantOf(v))
	}
}

// TestNegative: an Int less than 0 becomes the Neg of a Const (P8.1).
func TestNegative(t *testing.T) {
	testAll(t, map[string][]string{
		"-3": {"2-5", "---3", "0 - 3", "3 * -1", "3 / -1", "-5 / 2", "9 % -4", "-(1 + 2)", "if(false, 3, 2 - 5)", "0 - len(\"abc\")"},
		"-1": {"0 - 1", "7 % -2", "-1 / 1099511627776"}, "-1099511627776": {"0 - 1099511627776", "1048576 * -1048576", "-1099511627775 - 1"},
		"a + -1": {"a + (2 - 3)", "a + (0 - 1)"}, "-1 - a": {"2 - 3 - a"}, "-a * -2": {"-a * (1 - 3)"},
		"-(-2 + a)": {"-(1 - 3 + a)"}, "if(a, -1, -2)": {"if(a, 1 - 2, 1 - 3)"},
	})
	three := constantOf(number(3))
	testFold(t, node(api.Sub, constantOf(number(2)), constantOf(number(5))), node(api.Neg, three))
	testFold(t, node(api.Neg, three), node(api.Neg, three))
	testFold(t, node(api.Neg, node(api.Neg, three)), three)
	testFold(t, node(api.Neg, constantOf(number(0))), constantOf(number(0)))
}

// TestRefs: a node that refers to a field stays, even if its value does not
// depend on the field; what is below it is simplified (P8.1).
func TestRefs(t *testing.T) {
	unchanged(t, "a", "-a", "not a", "len(a)", "a + 1", "1 + a", "a * 0", "0 * a", "a - a", "a = a", "a + 1 + 2", "1 + a + 2",
		"a or true", "true or a", "a and false", "false and a", "true and a", "false or a", "if(a, 1, 1)", "if(a, true, false)",
		"if(a, b, b)", "if(a = a, 1, 2)", "not not a", "--a", "-(-1 + a)", `"" & a`, `a & "" & ""`, "a / 0", "a % 0 + 1", "true < a",
		"if(true or a, 1, 2)", "if(false and a, 1, 2)", "if(true and a, 1, 2)")
	testAll(t, map[string][]string{
		"a + 3": {"a+(1+2)", "a + if(1 < 2, 3, b)", "if(true, a, b) + 3"}, "a + 1 + 5": {"a + 1 + (2 + 3)"}, "3 + a": {"1 + 2 + a"},
		"6 * a * 6": {"2 * 3 * a * (2 * 3)"}, "-(a + 3)": {"-(a + (1 + 2))"}, "not (a < 3)": {"not (a < 1 + 2)"},
		"len(a & \"bc\")": {`len(a & ("b" & "c"))`}, "a or true": {"a or 1 < 2", "a or not false"}, "true or a": {"1 < 2 or a", "true or true or a"},
		"false and a": {"1 = 2 and a", "false and 1 and a"}, "a and false": {"a and not true"},
		"if(a < 2, 2, b)": {"if(a<2,1+1,b)", "if(a < 1 + 1, 2, b)"}, "if(a, 3, 7)": {"if(a, 1 + 2, 3 + 4)"},
		"a <= 3": {"a <= 1 + 2"}, "a != 3": {"a != 1 + 2"}, "3 = a": {"1 + 2 = a"}, "a - 3": {"a - (1 + 2)"}, "a / 3": {"a / (1 + 2)"},
		"a % 3": {"a % (1 + 2)"}, "a * b + 3": {"a * b + 6 / 2"}, `"ab" & a`: {`"a" & "b" & a`},
	})
	for _, op := range []int{
		api.Mul, api.Div, api.Mod, api.Add, api.Sub, api.Join, api.Less, api.AtMost, api.Same, api.Other, api.And, api.Or,
	} {
		three := node(api.Add, constantOf(number(1)), constantOf(number(2)))
		testFold(t, node(op, ref("a"), three), node(op, ref("a"), constantOf(number(3))))
		testFold(t, node(op, three, ref("a")), node(op, constantOf(number(3)), ref("a")))
	}
}

// TestFaults: a node without a Known value stays, and what is below it is
// simplified (P8.1).
func TestFaults(t *testing.T) {
	unchanged(t, "1 / 0", "1 % 0", "-true", "not 1", "not \"a\"", "len(1)", "1 + true", "true + 1", `"a" + "b"`, `1 & "a"`, `1 < "a"`,
		"true = 1", "1 and true", "true and 1", `"a" or true`, "false or 0", "1 / 0 + 1", "1 + 1 / 0", "-(1 / 0)", "1 / 0 = 1 or true",
		"1099511627776 + 1", "1099511627776 * 2", "-1099511627776 - 1", "if(1, 2, 3)", `if("a", 2, 3)`, "if(1 / 0, 2, 3)", "if(-1, 2, 3)",
		"if(1 / 0 = 1, a, b)", "if(not 1, a, b)", "if(1, a, b)", "if(0, a, b)", `if("true", a, b)`, `if("", a, b)`, "if(-1, a, b)")
	testAll(t, map[string][]string{
		"1 / 0": {"1 / (2 - 2)", "(3 - 2) / 0", "if(true, 1 / 0, 2)", "if(1 < 2, 1 / (2 - 2), a)", "if(false, 2, 1 / 0)"},
		"3 / 0": {"(1 + 2) / (3 * 0)"}, "3 + true": {"1 + 2 + (1 < 2)"}, `3 & "ab"`: {`(1 + 2) & ("a" & "b")`}, "-true": {"-(1 < 2)"},
		"not 3": {"not (1 + 2)", "not -(0 - 3)"}, "len(-1)": {"len(0 - 1)"}, "true and 3": {"1 < 2 and 1 + 2"}, "3 and true": {"1 + 2 and true"},
		"if(3, 7, -1)": {"if(1 + 2, 3 + 4, 1 - 2)"}, "if(3, a, 7)": {"if(1 + 2, a, 3 + 4)"}, "if(1 / 0 = 1, a, 2)": {"if(1/0=1, a, 1+1)"},
		"if(not 3, a + 3, 2)": {"if(not (1 + 2), a + (1 + 2), if(false, a, 2))"}, `if("ab", a, 3)`: {`if("a" & "b", a, 1 + 2)`},
		"1 / 0 + 3": {"1 / 0 + (1 + 2)"}, "-1 / 0": {"(0 - 1) / 0"}, "a + 1 / 0": {"a + 1 / (1 - 1)"},
		"1 / 0 = 1 or true": {"1 / (1 - 1) = 1 or 1 < 2"},
	})
	forty := strings.Repeat("x", 40)
	testFold(t, read(t, `"`+forty+`" & ("" & "y")`), read(t, `"`+forty+`" & "y"`))
	testFold(t, read(t, `"`+forty+`" & ("" & "")`), constantOf(text(forty)))
	testFold(t, read(t, `len("`+forty+`" & "y")`), read(t, `len("`+forty+`" & "y")`))
}

// TestIf: an If whose first operand becomes a Const of type Bool is replaced by
// one of the others, simplified (P8.1).
func TestIf(t *testing.T) {
	testAll(t, map[string][]string{
		"a": {
			"if(1<2,a,b)", "if(true, a, 1 / 0)", "if(false, b, a)", "if(true, a, a)", "if(2 < 1, b, a)", "if(not false, a, -true)",
			"if(true, if(false, b, a), c)", "if(if(true, true, b), a, c)", "if(if(false, b, false), c, a)", "if(1 = 2 or true, a, b)",
			"if(if(1 < 2, 3 < 4, b), if(false, c, a), d)",
		},
		"a + -1": {"if(1 < 2, a + (2 - 3), b)", "if(2 <= 1, b, a + -1)"},
		"b + 3":  {"if(1 = 2, a, b + (1 + 2))"}, "3": {"if(true, 1 + 2, a)", "if(false, a, 1 + 2)"}, "-3": {"if(1 = 1, 1 - 4, a)"},
		`"ab"`: {`if(true, "a" & "b", a)`}, "false": {"if(false, a, 1 < 0)"}, "if(a, 1, 2)": {"if(if(true, a, b), if(true, 1, b), if(false, b, 2))"},
		"a * a": {"if(true, a, b) * if(false, b, a)"}, "-a": {"-if(true, a, b)"}, "not (a or b)": {"not if(1 < 2, a or b, c)"},
		"if(a, b, c)": {"if(true, if(a, b, c), d)"}, "if(b, 1, if(c, 2, 3))": {"if(b, if(true, 1, a), if(c, if(false, a, 2), 3))"},
	})
	unchanged(t, "if(a, b, c)", "if(a < 2, 2, b)", "if(if(b, 1, 2) = 1 and false, 1, 2)", "if(if(a, true, false), 1, 2)")
}

// TestLostRefs: a node is not replaced by its value if it refers to no field
// only after it was simplified (P8.1).
func TestLostRefs(t *testing.T) {
	testAll(t, map[string][]string{
		"1 + 2":                   {"if(true, 1, a) + 2", "1 + if(false, a, 2)", "if(true, 1, a) + if(true, 2, b)"},
		"-(-1)":                   {"-if(true, 0 - 1, a)"},
		"not true":                {"not if(true, true, a)", "not if(1 < 2, 1 < 2, a)"},
		"1 + 2 + a":               {"if(true, 1, a) + 2 + a"},
		"if(not true, b, c)":      {"if(not if(true, true, a), b, c)"},
		"if(1 < 2, b, c)":         {"if(if(true, 1, a) < 2, b, c)", "if(1 < if(false, a, 1 + 1), b, c)"},
		"if(true and true, b, 3)": {"if(true and if(true, true, a), b, 1 + 2)"},
		"len(\"a\" & \"b\")":      {`len(if(true, "a", a) & "b")`},
	})
}

// deep is a formula with n Negs above the last node.
func deep(n int, last api.Expr) api.Expr {
	for range n {
		last = node(api.Neg, last)
	}
	return last
}

// large is a sum of n equal formulas without much depth.
func large(n int, x api.Expr) api.Expr {
	if n == 1 {
		return x
	}
	return node(api.Add, large(n/2, x), large(n-n/2, x))
}

// TestLimits: formulas as large and as deep as can be (P8.1, P8.2).
func TestLimits(t *testing.T) {
	one, a := constantOf(number(1)), ref("a")
	testFold(t, deep(11, one), node(api.Neg, one))
	testFold(t, deep(10, one), one)
	testFold(t, deep(11, a), deep(11, a))
	testFold(t, node(api.Neg, large(30, one)), node(api.Neg, constantOf(number(30))))
	testFold(t, node(api.Neg, large(30, a)), node(api.Neg, large(30, a)))
	testFold(t, node(api.Add, a, large(29, one)), node(api.Add, a, constantOf(number(29))))
	testFold(t, node(api.Add, large(29, one), a), node(api.Add, constantOf(number(29)), a))
	testFold(t, node(api.If, constantOf(boolean(1)), one, large(29, a)), one)
	for n := range 10 { // the negative Int is as deep as can be
		x := node(api.Add, node(api.Sub, one, constantOf(number(8))), a)
		testFold(t, deep(n, x), deep(n, node(api.Add, node(api.Neg, constantOf(number(7))), a)))
	}
	x, want := node(api.Add, a, one), node(api.Add, a, one)
	for range 10 {
		x = node(api.If, constantOf(boolean(1)), x, a)
	}
	testFold(t, x, want)
	testClosed(t, x, false)
	testClosed(t, node(api.Neg, large(30, one)), true)
	testClosed(t, node(api.Add, large(29, one), a), false)
	testClosed(t, deep(11, one), true)
	testClosed(t, deep(11, a), false)
}

// testClosed tests whether a formula refers to no field.
func testClosed(t *testing.T, x api.Expr, want bool) {
	t.Helper()
	if got, e := Closed(x); got != want || e != api.OK {
		t.Errorf("Closed(%s) = %v, %d, want %v", shown(x), got, e, want)
	}
}

// TestClosed: does a formula refer to no field, whatever its value is (P8.2)?
func TestClosed(t *testing.T) {
	for want, list := range map[bool][]string{
		true: {
			"0", "true", `""`, `"a"`, "-1", "1 + 2 * 3", "1 / 0", "not 1", `len("a" & "b")`, "if(true, 1, 2)", "if(1, 2, 3)",
			"true and false or 1", `1 < "a"`, "1 <= 2", "1 = 2", "1 != 2", "7 % 2", "7 - 2",
		},
		false: {
			"a", "-a", "not a", "len(a)", "a + 1", "1 + a", "if(a, 1, 2)", "if(true, a, 1)", "if(true, 1, a)", "if(false, a, 1)",
			"true or a", "false and a", "a or true", "a * 0", "1 / 0 + a", "if(1 < 2, 3, if(true, 4, a))", "a = a",
		},
	} {
		for _, s := range list {
			testClosed(t, read(t, s), want)
		}
	}
	for op := api.Neg; op <= api.Len; op++ {
		for n := range 1 << operands(op) { // which of the operands are Refs
			x := api.Expr{Op: op}
			for i := range operands(op) {
				x.Args = append(x.Args, []api.Expr{constantOf(number(1)), ref("a")}[n>>i&1])
			}
			testClosed(t, x, n == 0)
		}
	}
}

// operands are how many an operator has.
func operands(op int) int {
	switch op {
	case api.Const, api.Ref:
		return 0
	case api.Neg, api.Not, api.Len:
		return 1
	case api.If:
		return 3
	}
	return 2
}

// TestErrors: those of expr.Check (P8.1, P8.2).
func TestErrors(t *testing.T) {
	a, one, yes := ref("a"), constantOf(number(1)), constantOf(boolean(1))
	round := []api.Expr{{Op: api.Neg}}
	round[0].Args = round
	for want, list := range map[api.Errno][]api.Expr{
		api.ErrSize: {
			round[0], {Args: make([]api.Expr, 60)}, {Op: api.If, Args: make([]api.Expr, 1<<20)}, large(31, a), large(31, one),
			deep(60, one), node(api.If, yes, one, large(30, a)),
		},
		api.ErrRange: {deep(12, a), deep(12, one), node(0, deep(11, a)), node(api.If, yes, one, deep(11, one))},
		api.ErrKind:  {{}, {Op: -1}, {Op: 19, Name: "a"}, {Op: math.MaxInt}, node(api.Or, yes, node(0)), node(api.If, yes, one, node(99))},
		api.ErrForm: {
			node(api.Add, one), node(api.Neg), node(api.Neg, one, one), node(api.Len), node(api.If, yes, one), node(api.Or, yes),
			node(api.If, yes, one, one, one), ref(""), ref("A"), ref("if"), ref(strings.Repeat("a", 11)), {Op: api.Const},
			constantOf(number(-1)), constantOf(number(api.MaxNumber + 1)), constantOf(boolean(2)), constantOf(text("\n")),
			constantOf(api.Value{Kind: api.Pending}), constantOf(api.Value{Kind: api.Fault, N: 8}), {Op: api.Const, V: number(1), Name: "a"},
			{Op: api.Const, V: number(1), Args: []api.Expr{one}}, {Op: api.Ref, Name: "a", V: number(1)}, {Op: api.Ref, Name: "a", Args: []api.Expr{a}},
			{Op: api.Neg, V: number(1), Args: []api.Expr{one}}, {Op: api.Neg, Name: "a", Args: []api.Expr{one}},
			node(api.If, yes, one, ref("if")), node(api.And, constantOf(boolean(0)), node(api.Not)), node(api.Neg, constantOf(number(-1))),
		},
	} {
		for _, x := range list {
			if y, e := Fold(x); !same(y, api.Expr{}) || e != want {
				t.Errorf("Fold(%s) = %s, %d, want %d", shown(x), shown(y), e, want)
			}
			if closed, e := Closed(x); closed || e != want {
				t.Errorf("Closed(%s) = %v, %d, want %d", shown(x), closed, e, want)
			}
		}
	}
}

// maker makes formulas that all look different, but are the same in each run.
type maker struct{ state uint32 }

// below n, and at least 0.
func (m *maker) below(n int) int {
	m.state = m.state*1664525 + 1013904223
	return int(m.state>>8) % n
}

// formula that mostly has this type.
func (m *maker) formula(kind, depth int) api.Expr {
	if m.below(20) == 0 {
		kind = 1 + m.below(3)
	}
	if depth == 1 || m.below(8) == 0 {
		return m.leaf(kind)
	}
	if m.below(4) == 0 {
		return node(api.If, m.formula(api.Bool, depth-1), m.formula(kind, depth-1), m.formula(kind, depth-1))
	}
	ops, kinds := []int{api.Add, api.Sub, api.Mul, api.Div, api.Mod, api.Neg, api.Len}, []int{api.Int, api.Int, api.Int, api.Int, api.Int, api.Int, api.Text}
	switch kind {
	case api.Bool:
		same := 1 + m.below(3)
		ops, kinds = []int{api.And, api.Or, api.Not, api.Less, api.AtMost, api.Same, api.Other}, []int{api.Bool, api.Bool, api.Bool, same, same, same, same}
	case api.Text:
		ops, kinds = []int{api.Join}, []int{api.Text}
	}
	at := m.below(len(ops))
	x := api.Expr{Op: ops[at]}
	for range operands(x.Op) {
		x.Args = append(x.Args, m.formula(kinds[at], depth-1))
	}
	return x
}

// leaf is a formula of one node: one in four refers to a field.
func (m *maker) leaf(kind int) api.Expr {
	if m.below(4) == 0 {
		return ref([]string{"n", "m", "t", "f", "s", "lost"}[2*(kind-1)+m.below(2)])
	}
	switch kind {
	case api.Int:
		return constantOf(number([]int{0, 1, 2, 3, 7, 1 << 20, api.MaxNumber}[m.below(7)]))
	case api.Bool:
		return constantOf(boolean(m.below(2)))
	}
	return constantOf(text([]string{"", "a", "b", `"`, strings.Repeat("x", 30)}[m.below(5)]))
}

// formulas are many, of depth up to 5.
func formulas() []api.Expr {
	var list []api.Expr
	m := maker{1}
	for len(list) < 50000 {
		x := m.formula(1+m.below(3), 1+m.below(5))
		if expr.Check(x) == api.OK {
			list = append(list, x)
		}
	}
	return list
}

// folded is what a formula is simplified to, from the leaves to the root, and
// whether it refers to no field: all operands of a node are simplified before
// its own value is known. A value becomes the formula of its notation.
func folded(t *testing.T, x api.Expr) (api.Expr, bool) {
	y, closed := x, x.Op != api.Ref
	y.Args = nil
	for _, arg := range x.Args {
		z, whole := folded(t, arg)
		y.Args, closed = append(y.Args, z), closed && whole
	}
	if v, _ := eval.Of(y, nil); closed && value.Known(v) {
		s, _ := value.Show(v)
		return read(t, s), true
	}
	if y.Op == api.If {
		switch s, _ := expr.Print(y.Args[0]); s {
		case "true":
			return y.Args[1], closed
		case "false":
			return y.Args[2], closed
		}
	}
	return y, closed
}

// facts give the fields of formulas values of all kinds in turn.
func facts() [][]api.Fact {
	values := []api.Value{
		number(2), number(-3), boolean(1), boolean(0), text("b"), {Kind: api.Fault, N: 14}, {Kind: api.Pending}, number(0), text(""),
	}
	lists := [][]api.Fact{nil}
	for i := range values {
		var list []api.Fact
		for j, name := range []string{"n", "m", "t", "f", "s", "lost"} {
			list = append(list, api.Fact{Name: name, Has: values[(i+j)%len(values)]})
		}
		lists = append(lists, list)
	}
	return lists
}

// TestMany: many formulas are simplified like from the leaves to the root, and
// what they are simplified to is valid, no larger, and has the same values
// (P8.1).
func TestMany(t *testing.T) {
	lists, less, constants := facts(), 0, 0
	for _, x := range formulas() {
		want, closed := folded(t, x)
		y, e := Fold(x)
		if !same(y, want) || e != api.OK {
			t.Fatalf("Fold(%s) = %s, %d, want %s", shown(x), shown(y), e, shown(want))
		}
		if e := expr.Check(y); e != api.OK {
			t.Fatalf("Fold(%s) = %s, error %d", shown(x), shown(y), e)
		}
		testClosed(t, x, closed)
		size, depth := expr.Size(x)
		newSize, newDepth := expr.Size(y)
		if newSize > size || newDepth > depth {
			t.Fatalf("Fold(%s) = %s, which is larger", shown(x), shown(y))
		}
		for _, l := range lists {
			v, _ := eval.Of(x, l)
			if w, e := eval.Of(y, l); v != w || e != api.OK {
				t.Fatalf("Fold(%s) = %s, but the values are %v and %v", shown(x), shown(y), v, w)
			}
		}
		if newSize < size && newSize > 2 {
			less++
		}
		if newSize < size && y.Op == api.Const {
			constants++
		}
	}
	if less < 5000 || constants < 5000 {
		t.Errorf("the formulas are too much alike: %d of them become less, and %d a Const", less, constants)
	}
}

// places that the lists of a formula have in memory, with the unused ones,
// each with how often it is found.
func places(found map[*api.Expr]int, x api.Expr) {
	all := x.Args[:cap(x.Args)]
	for i := range all {
		found[&all[i]]++
	}
	for _, arg := range x.Args {
		places(found, arg)
	}
}

// roomy is a copy of a formula, with unused capacity that has something in it.
func roomy(x api.Expr) api.Expr {
	l := slices.Repeat([]api.Expr{ref("unused")}, len(x.Args)+2)
	for i, arg := range x.Args {
		l[i] = roomy(arg)
	}
	x.Args = l[:len(x.Args)]
	return x
}

// whole of a formula: also what is in its unused capacity.
func whole(x api.Expr) api.Expr {
	x.Args = slices.Clone(x.Args[:cap(x.Args)])
	for i, arg := range x.Args {
		x.Args[i] = whole(arg)
	}
	return x
}

// testMemory tests that a result is new memory, and that the argument stays as
// it is.
func testMemory(t *testing.T, x api.Expr) {
	t.Helper()
	before, args := whole(x), map[*api.Expr]int{}
	places(args, x)
	y, _ := Fold(x)
	z, _ := Fold(x)
	Closed(x)
	if !reflect.DeepEqual(whole(x), before) {
		t.Fatalf("Fold(%s) changed it", shown(x))
	}
	if !same(y, z) {
		t.Fatalf("Fold(%s) = %s, and then %s", shown(x), shown(y), shown(z))
	}
	found := map[*api.Expr]int{}
	places(found, y)
	places(found, z)
	for place, n := range found {
		if n > 1 || args[place] > 0 {
			t.Fatalf("Fold(%s) = %s shares memory", shown(x), shown(y))
		}
	}
}

// TestMemory: results are new memory, arguments stay as they are, and nothing
// is kept between calls.
func TestMemory(t *testing.T) {
	for _, s := range []string{
		"a", "1", "-1", "a + 1", "a + (2 - 3)", "if(true, a + b, c)", "if(false, a, b * -c)", "if(a, b, c)", "-a", "1 / 0", "-(1 / 0)",
		"if(true, if(true, a - 1, 2), 3)", "not (a = -1)", "if(1, a, b)",
	} {
		x := roomy(read(t, s))
		testMemory(t, x)
		want, _ := Fold(read(t, s))
		testFold(t, x, want)
	}
	for i, x := range formulas() {
		if i%20 == 0 {
			testMemory(t, roomy(x))
		}
	}
	for _, list := range [][]api.Expr{ // the same list twice
		{ref("a"), constantOf(number(1))}, {node(api.Sub, constantOf(number(1)), constantOf(number(2))), ref("a")},
		{constantOf(number(1)), constantOf(boolean(1))},
	} {
		twice := node(api.Add, node(api.Sub, list...), node(api.Mul, list...))
		testMemory(t, twice)
		testMemory(t, node(api.If, constantOf(boolean(1)), twice, twice))
		testMemory(t, node(api.If, ref("b"), twice, twice))
	}
	for _, x := range []api.Expr{{}, node(0, ref("a")), {Op: api.Ref, Name: "a", Args: []api.Expr{ref("b")}}, large(31, ref("a"))} {
		testMemory(t, roomy(x))
	}
}
