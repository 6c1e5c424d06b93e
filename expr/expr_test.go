package expr

import (
	"math"
	"reflect"
	"strings"
	"testing"

	"lychway/api"
)

// many is a string several times over.
func many(s string, n int) string { return strings.Repeat(s, n) }

// ref, number, truth and text are formulas of one node, and node has Args.
func ref(name string) api.Expr { return api.Expr{Op: api.Ref, Name: name} }
func constant(v api.Value) api.Expr {
	return api.Expr{Op: api.Const, V: v}
}
func number(n int) api.Expr  { return constant(api.Value{Kind: api.Int, N: n}) }
func truth(n int) api.Expr   { return constant(api.Value{Kind: api.Bool, N: n}) }
func text(s string) api.Expr { return constant(api.Value{Kind: api.Text, S: s}) }
func node(op int, args ...api.Expr) api.Expr {
	return api.Expr{Op: op, Args: args}
}

// binaries are the operators with two operands, and arities are how many
// operands each operator has.
var binaries = []int{
	api.Mul, api.Div, api.Mod, api.Add, api.Sub, api.Join,
	api.Less, api.AtMost, api.Same, api.Other, api.And, api.Or,
}

func arities() map[int]int {
	m := map[int]int{api.Const: 0, api.Ref: 0, api.Neg: 1, api.Not: 1, api.Len: 1, api.If: 3}
	for _, op := range binaries {
		m[op] = 2
	}
	return m
}

// names are n formulas of one node.
func names(n int) []api.Expr {
	var list []api.Expr
	for i := range n {
		list = append(list, ref(string(rune('a'+i%26))))
	}
	return list
}

// tall is a formula of n nodes that are nested in one another.
func tall(n int) api.Expr {
	x := ref("a")
	for range n - 1 {
		x = node(api.Neg, x)
	}
	return x
}

// full is a formula of this depth in which each operator has two operands.
func full(depth int) api.Expr {
	if depth == 1 {
		return ref("a")
	}
	return node(api.Add, full(depth-1), full(depth-1))
}

// large is a formula of n nodes without much depth.
func large(n int) api.Expr {
	if n < 3 {
		return tall(n)
	}
	left := (n - 1) / 2
	return node(api.Sub, large(left), large(n-1-left))
}

// TestSize: how many nodes there are, and their depth (P4.1).
func TestSize(t *testing.T) {
	for _, c := range []struct {
		x           api.Expr
		size, depth int
	}{
		{ref("a"), 1, 1},
		{number(7), 1, 1},
		{node(api.Neg, ref("a")), 2, 2},
		{node(api.Add, ref("a"), ref("b")), 3, 2},
		{node(api.If, ref("a"), ref("b"), ref("c")), 4, 2},
		{node(api.Add, tall(3), ref("b")), 5, 4},
		{node(api.Add, ref("b"), tall(3)), 5, 4},
		{node(api.If, ref("a"), tall(4), tall(2)), 8, 5},
		{full(5), 31, 5},
		{full(12), 4095, 12},
		{large(60), 60, 6},
		{tall(1 << 16), 1 << 16, 1 << 16},
		{node(api.Len, names(1000)...), 1001, 2},
		{api.Expr{}, 1, 1},
		{api.Expr{Args: []api.Expr{}}, 1, 1},
		{node(-3, node(99), node(api.Ref, node(0))), 4, 3},
	} {
		if size, depth := Size(c.x); size != c.size || depth != c.depth {
			t.Errorf("Size = %d, %d, want %d, %d", size, depth, c.size, c.depth)
		}
	}
}

// testCheck tests what Check says, and that Print says it too.
func testCheck(t *testing.T, x api.Expr, want api.Errno) {
	t.Helper()
	if e := Check(x); e != want {
		t.Errorf("Check(%.99v) = %d, want %d", x, e, want)
	}
	s, e := Print(x)
	if e != want || (s == "") != (e != api.OK) {
		t.Errorf("Print(%.99v) = %q, %d, want %d", x, s, e, want)
	}
}

// TestCheck: formulas that are valid (P4.2).
func TestCheck(t *testing.T) {
	for op, n := range arities() {
		if n > 0 {
			testCheck(t, node(op, names(n)...), api.OK)
		}
	}
	for _, x := range []api.Expr{
		ref("a"), ref("a123456789"), ref("iff"), ref("an"),
		number(0), number(api.MaxNumber), truth(0), truth(1), text(""), text(many("~", 40)),
		{Op: api.Ref, Name: "a", Args: []api.Expr{}},
		node(api.Add, ref("a"), ref("a")),
		node(api.Neg, text("a")), // types are checked elsewhere
	} {
		testCheck(t, x, api.OK)
	}
}

// TestCheckSize: how large a formula may be, which comes first (P4.2).
func TestCheckSize(t *testing.T) {
	for n := 1; n <= api.MaxNodes; n++ {
		if size, _ := Size(large(n)); size != n {
			t.Fatalf("large(%d) has %d nodes", n, size)
		}
		testCheck(t, large(n), api.OK)
	}
	for n := api.MaxNodes + 1; n < 70; n++ {
		testCheck(t, large(n), api.ErrSize)
	}
	testCheck(t, full(6), api.ErrSize)
	testCheck(t, tall(61), api.ErrSize)
	testCheck(t, tall(1<<16), api.ErrSize)
	testCheck(t, node(0, names(60)...), api.ErrSize)
	testCheck(t, node(0, names(59)...), api.ErrKind)
	testCheck(t, node(api.Add, names(59)...), api.ErrForm)
	testCheck(t, node(api.Add, names(1<<20)...), api.ErrSize)
	testCheck(t, full(20), api.ErrSize)
}

// TestCheckEndless: a formula that can't be visited whole is just too large
// (P4.2, and the general rule that every function terminates).
func TestCheckEndless(t *testing.T) {
	x := ref("a")
	for range 1000 { // the same list twice
		list := []api.Expr{x}
		x = node(api.Add, node(api.Neg, list...), node(api.Neg, list...))
	}
	testCheck(t, x, api.ErrSize)
	round := []api.Expr{{Op: api.Neg}}
	round[0].Args = round
	testCheck(t, round[0], api.ErrSize)
}

// TestCheckDepth: how deep a formula may be, which comes second (P4.2).
func TestCheckDepth(t *testing.T) {
	testCheck(t, tall(12), api.OK)
	testCheck(t, tall(13), api.ErrRange)
	testCheck(t, tall(60), api.ErrRange)
	testCheck(t, node(api.Add, ref("a"), tall(11)), api.OK)
	testCheck(t, node(api.Add, ref("a"), tall(12)), api.ErrRange)
	testCheck(t, node(api.Add, tall(12), ref("a")), api.ErrRange)
	testCheck(t, node(0, tall(12)), api.ErrRange)
	testCheck(t, node(api.Ref, tall(12)), api.ErrRange)
	testCheck(t, node(0, tall(11)), api.ErrKind)
}

// TestCheckKind: operators that there aren't (P4.2).
func TestCheckKind(t *testing.T) {
	for _, op := range []int{0, -1, 19, 20, 1 << 40, -18, math.MaxInt, math.MinInt} {
		testCheck(t, node(op), api.ErrKind)
		testCheck(t, node(op, ref("a"), ref("b")), api.ErrKind)
		testCheck(t, api.Expr{Op: op, Name: "if", V: api.Value{N: 1}}, api.ErrKind)
		testCheck(t, node(api.Neg, node(op)), api.ErrKind)
		testCheck(t, node(api.If, ref("a"), ref("b"), node(op)), api.ErrKind)
	}
}

// TestCheckArgs: how many Args each operator has (P4.2).
func TestCheckArgs(t *testing.T) {
	for op, want := range arities() {
		for n := range 6 {
			x := node(op, names(n)...)
			switch op {
			case api.Const:
				x.V = number(1).V
			case api.Ref:
				x.Name = "a"
			}
			if n == want {
				testCheck(t, x, api.OK)
				testCheck(t, node(api.Neg, x), api.OK)
			} else {
				testCheck(t, x, api.ErrForm)
				testCheck(t, node(api.Neg, x), api.ErrForm)
			}
		}
	}
}

// TestCheckConst: what a Const may be, and that nothing else has a V (P4.2).
func TestCheckConst(t *testing.T) {
	for _, v := range []api.Value{
		{}, {Kind: api.Pending}, {Kind: api.Fault, N: 1}, {Kind: 6}, {Kind: -1},
		{Kind: api.Int, N: -1}, {Kind: api.Int, N: -api.MaxNumber}, {Kind: api.Int, N: api.MaxNumber + 1},
		{Kind: api.Int, S: "a"}, {Kind: api.Bool, N: 2}, {Kind: api.Bool, N: -1}, {Kind: api.Bool, S: "a"},
		{Kind: api.Text, N: 1}, {Kind: api.Text, S: "\n"}, {Kind: api.Text, S: many("a", 41)},
	} {
		testCheck(t, constant(v), api.ErrForm)
		testCheck(t, node(api.Not, constant(v)), api.ErrForm)
	}
	for op, n := range arities() {
		if op == api.Const {
			continue
		}
		for _, v := range []api.Value{
			{Kind: api.Int}, {Kind: api.Int, N: 1}, {Kind: api.Text}, {Kind: api.Pending}, {N: 1}, {S: "a"},
		} {
			x := node(op, names(n)...)
			x.V = v
			if op == api.Ref {
				x.Name = "a"
			}
			testCheck(t, x, api.ErrForm)
		}
	}
}

// TestCheckRef: which Name a Ref may have, and that nothing else has one
// (P4.2).
func TestCheckRef(t *testing.T) {
	for _, name := range []string{
		"", "A", "1", "1a", "a b", "a_", "aé", "\"a\"", "abcdefghijk",
		"and", "or", "not", "true", "false", "if", "len",
	} {
		testCheck(t, ref(name), api.ErrForm)
		testCheck(t, node(api.Add, ref("a"), ref(name)), api.ErrForm)
	}
	for op, n := range arities() {
		if op == api.Ref {
			continue
		}
		x := node(op, names(n)...)
		x.Name = "a"
		if op == api.Const {
			x.V = number(1).V
		}
		testCheck(t, x, api.ErrForm)
	}
}

// TestCheckPreorder: of several invalid nodes, the first one is told (P4.2).
func TestCheckPreorder(t *testing.T) {
	unknown, misshaped := node(0), ref("if")
	testCheck(t, node(api.Add, unknown, misshaped), api.ErrKind)
	testCheck(t, node(api.Add, misshaped, unknown), api.ErrForm)
	testCheck(t, node(api.Add, node(api.Neg, unknown), misshaped), api.ErrKind)
	testCheck(t, node(api.Add, node(api.Neg, misshaped), unknown), api.ErrForm)
	testCheck(t, node(api.Add, unknown), api.ErrForm)
	testCheck(t, node(0, misshaped), api.ErrKind)
	testCheck(t, node(api.If, ref("a"), node(api.Not, ref("b"), unknown), misshaped), api.ErrForm)
}

// TestUnchanged: a formula that is passed stays as it is.
func TestUnchanged(t *testing.T) {
	shape := func() api.Expr {
		return node(api.If, node(api.Less, ref("a"), number(3)), text(`"`), node(api.Not, truth(1)))
	}
	x := shape()
	Size(x)
	Check(x)
	Print(x)
	if !reflect.DeepEqual(x, shape()) {
		t.Errorf("changed to %v", x)
	}
}
