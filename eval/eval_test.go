package eval

import (
	"cmp"
	"math"
	"reflect"
	"slices"
	"strconv"
	"strings"
	"testing"

	"lychway/api"
	"lychway/expr"
	"lychway/value"
)

// ref and constant are formulas of one node, and node has Args.
func ref(name string) api.Expr            { return api.Expr{Op: api.Ref, Name: name} }
func constant(v api.Value) api.Expr       { return api.Expr{Op: api.Const, V: v} }
func node(op int, l ...api.Expr) api.Expr { return api.Expr{Op: op, Args: l} }

// number is an Int.
func number(n int) api.Value { return api.Value{Kind: api.Int, N: n} }

// boolean is a Bool.
func boolean(b bool) api.Value { return known(strconv.FormatBool(b)) }

// read is the formula of a notation.
func read(t *testing.T, s string) api.Expr {
	t.Helper()
	x, at, e := expr.Parse(s)
	if e != api.OK {
		t.Fatalf("Parse(%q) = %d, %d", s, at, e)
	}
	return x
}

// known is the value of a notation.
func known(s string) api.Value {
	v, e := value.Parse(s)
	if e != api.OK {
		panic("not a value: " + s)
	}
	return v
}

// facts are written as names and values in turn.
func facts(l ...string) []api.Fact {
	var list []api.Fact
	for i := 0; i < len(l); i += 2 {
		list = append(list, api.Fact{Name: l[i], Has: known(l[i+1])})
	}
	return list
}

// some facts with values of all kinds; there is none with the name none.
func some() []api.Fact {
	return facts("n", "4", "m", "-7", "z", "0", "most", "1099511627776", "least", "-1099511627776",
		"t", "true", "f", "false", "s", `"ab"`, "e", `""`, "long", `"`+strings.Repeat("x", 40)+`"`,
		"p", "?", "lost", "!14", "one", "!1", "state", "!15")
}

// testOf tests the value of a formula.
func testOf(t *testing.T, x api.Expr, l []api.Fact, want api.Value) {
	t.Helper()
	if v, e := Of(x, l); v != want || e != api.OK {
		t.Errorf("Of(%.300v, %.300v) = %v, %d, want %v", x, l, v, e, want)
	}
}

// testError tests that a formula is not evaluated at all.
func testError(t *testing.T, x api.Expr, l []api.Fact, want api.Errno) {
	t.Helper()
	if v, e := Of(x, l); v != (api.Value{}) || e != want {
		t.Errorf("Of(%.300v, %.300v) = %v, %d, want error %d", x, l, v, e, want)
	}
}

// testAll tests the values, by some facts, of formulas as they are written.
func testAll(t *testing.T, cases map[string][]string) {
	t.Helper()
	for want, list := range cases {
		for _, s := range list {
			if v, e := Of(read(t, s), some()); v != known(want) || e != api.OK {
				t.Errorf("Of(%q) = %v, %d, want %s", s, v, e, want)
			}
		}
	}
}

// TestNodes: a Const is its value, and a Ref that of its fact (P7.1).
func TestNodes(t *testing.T) {
	testAll(t, map[string][]string{
		"0": {"0", "z", "(0)"}, "4": {"4", "n"}, "-7": {"m"}, "1099511627776": {"1099511627776", "most"},
		"-1099511627776": {"least"}, "true": {"true", "t"}, "false": {"false", "f"}, `""`: {`""`, "e"},
		`"ab"`: {`"ab"`, "s"}, `"none"`: {`"none"`}, `"\"\\"`: {`"\"\\"`}, "?": {"p"}, "!14": {"lost"},
		"!1": {"one"}, "!15": {"state"}, "!5": {"none", "nn", "lo", "losts", "p1", "a"},
	})
	for _, fact := range some() {
		testOf(t, ref(fact.Name), []api.Fact{fact}, fact.Has)
		testOf(t, ref(fact.Name), nil, known("!5"))
		testOf(t, ref(fact.Name), []api.Fact{}, known("!5"))
	}
}

// TestNumbers: Neg, Add, Sub, Mul, Div and Mod (P7.1).
func TestNumbers(t *testing.T) {
	testAll(t, map[string][]string{
		"-4": {"-n", "---n", "n - 8", "n * -1", "m / 2", "0 - n"}, "4": {"--n", "-(0 - n)", "n * 1", "4 % 5"},
		"7": {"-m", "n + 3", "1 + 2 * 3", "3 - m - 3", "15 / 2"}, "0": {"-z", "-0", "0 * least", "n - n", "z / m", "m % m"},
		"1": {"m % 2", "n - (n - 1)", "7 % 2", "m / m"}, "-1": {"7 % -2", "-1 / most", "m % -2", "1 / least"},
		"5": {"n + 1", "2 * n - 3", "m * m / 9"}, "-3": {"n + m"}, "11": {"n - m"}, "3": {"n * n % 13", "m / -2"},
		"1099511627776":  {"-least", "most", "most / 1", "least / -1", "1048576 * 1048576", "most - 1 + 1"},
		"-1099511627776": {"-most", "least * 1", "0 - most"},
		"!7":             {"most + 1", "least - 1", "-least + 1", "most * 2", "1048577 * 1048576", "most * most", "most - m"},
		"!8":             {"n / 0", "n % 0", "0 / z", "z % z", "most / z", "1 / (n - 4)", "-(1 / 0)"},
	})
}

// TestTexts: Join and Len (P7.1).
func TestTexts(t *testing.T) {
	testAll(t, map[string][]string{
		`"abab"`: {"s & s"}, `"ab"`: {"s & e", "e & s", `"a" & "b"`}, `""`: {"e & e"}, `"abcab"`: {`s & "c" & s`},
		`"a\"b"`: {`"a\"" & "b"`}, "2": {"len(s)", `len("\"\\")`, `len("  ")`}, "0": {"len(e)", "len(e & e)"},
		"40": {"len(long)", "len(long & e)", "len(e & long)"}, "4": {"len(s & s)"}, "-2": {"-len(s)"},
		"!1": {"long & s", "s & long", `long & "x"`, `"x" & long`, "long & long", "len(long & s)", `e & (long & "x")`},
	})
	long := some()[9].Has.S
	for n := range 41 {
		for _, m := range []int{0, 1, 39 - n, 40 - n, 41 - n, 40} {
			if m < 0 || m > 40 {
				continue
			}
			want := api.Value{Kind: api.Text, S: long[:n] + strings.Repeat("y", m)}
			if n+m > 40 {
				want = known("!1")
			}
			x := node(api.Join, ref("a"), constant(api.Value{Kind: api.Text, S: strings.Repeat("y", m)}))
			testOf(t, x, facts("a", `"`+long[:n]+`"`), want)
		}
		testOf(t, node(api.Len, ref("a")), facts("a", `"`+long[:n]+`"`), number(n))
	}
}

// TestComparisons: Less, AtMost, Same and Other compare numbers as numbers, and
// strings byte by byte; Not negates (P7.1).
func TestComparisons(t *testing.T) {
	for _, order := range [][]string{ // rising
		{"-1099511627776", "-12", "-7", "0", "2", "10", "1099511627776"},
		{"false", "true"},
		{`""`, `" "`, `"10"`, `"2"`, `"B"`, `"a"`, `"ab"`, `"b"`, `"~"`},
	} {
		for i, a := range order {
			for j, b := range order {
				l := facts("a", a, "b", b)
				for s, want := range map[string]bool{
					"a < b": i < j, "a <= b": i <= j, "a = b": i == j, "a != b": i != j,
					"not (a < b)": i >= j, "not (a <= b)": i > j, "not (a = b)": i != j, "not (a != b)": i == j,
				} {
					testOf(t, read(t, s), l, boolean(want))
				}
			}
		}
	}
	testAll(t, map[string][]string{
		"true": {"not f", "not not t", "not (n < m)", "not false", "not t = f"}, "false": {"not t", "not not f", "not true", "not (t = t)"},
	})
}

// TestConnectives: the second operand of And and Or counts only if the first
// one leaves the result open, and then may not be an Int or a Text (P7.1).
func TestConnectives(t *testing.T) {
	testAll(t, map[string][]string{
		"true": {
			"t and t", "t or f", "f or t", "t or t", "t or n", "t or s", "t or p", "t or lost", "t or none",
			"t or 1 / 0 < 2", "z = 0 or 1 / z < 2", "t or (p and lost)", "f or f or t", "t and (f or t)",
		},
		"false": {
			"f and f", "f and t", "t and f", "f or f", "f and n", "f and s", "f and p", "f and lost", "f and none",
			"not t and p", "z != 0 and 1 / z < 2", "f and (p or lost)", "t and t and f", "f or (t and f)",
		},
		"?": {
			"p and t", "p and f", "p or t", "p or f", "p and p", "p or p", "p and n", "p or s", "p and lost",
			"p or lost", "p and none", "p or 1 / 0", "t and p", "f or p", "t and (f or p)", "not (t and p)",
		},
		"!14": {
			"lost and t", "lost and f", "lost or t", "lost or f", "lost and p", "lost or p", "lost and n", "lost or s",
			"lost and one", "lost or one", "lost and none", "t and lost", "f or lost", "t and (f or lost)",
		},
		"!1": {"one and lost", "one or lost", "t and one and lost", "f or one or lost"},
		"!5": {"none and f", "none or t", "t and none", "f or none", "f or none and p"},
		"!8": {"t and 1 / z < 2", "1 / z < 2 and f", "1 / z < 2 or t", "t and 1 / 0", "f or 1 % z"},
		"!9": {
			"n and t", "n and f", "s and f", "n or t", "s or t", "n and p", "n or lost", "s and lost", "s or p",
			"t and n", "t and s", "f or n", "f or s", "t and 0", "f or 1", `t and ""`, `f or "true"`, "z and f",
			"1 or t", "t and t and n", "f or f or s", "n and none", "not n or t", "t and not n",
		},
	})
}

// TestIf: the first operand chooses one of the others, whatever their types
// are; the other one is not evaluated (P7.1).
func TestIf(t *testing.T) {
	testAll(t, map[string][]string{
		"4": {
			"if(t, n, m)", "if(f, m, n)", "if(t, n, p)", "if(f, lost, n)", "if(t, n, s)", "if(f, t, n)",
			"if(t, n, none)", "if(f, none, n)", "if(t, n, 1 / 0)", "if(z = 0, n, 1 / z)", "if(z != 0, 1 / z, n)",
			"if(t, n, not n)", "if(if(t, f, p), lost, if(t, n, p))",
		},
		"false": {"if(t, f, t)", "if(f, t, f)", "if(f, n, f)"}, `"ab"`: {"if(t, s, n)", "if(f, n, s)"},
		"?": {
			"if(p, n, m)", "if(p, lost, one)", "if(p, none, 1 / 0)", "if(p, n, n)", "if(t, p, n)", "if(f, lost, p)",
			"if(p = n, n, m)", "if(t and p, n, m)", "if(not p, t, f)", "if(f or p, 1, 1)",
		},
		"!14": {
			"if(lost, n, m)", "if(lost, p, one)", "if(lost, one, none)", "if(t, lost, n)", "if(f, n, lost)", "if(t, lost, one)",
			"if(lost = n, n, m)", "if(lost and f, n, n)", "if(n < lost, 1, 1)",
		},
		"!5": {"if(none, n, m)", "if(t, none, n)", "if(f, n, none)", "if(none, lost, p)", "if(none and f, n, n)"},
		"!8": {"if(1 / 0, n, m)", "if(t, 1 / z, n)", "if(f, n, 1 % 0)", "if(1 / 0 = 1, lost, p)"},
		"!9": {
			"if(n, m, m)", "if(s, m, m)", "if(1, n, n)", "if(0, n, n)", `if("true", n, n)`, "if(n, p, p)", "if(s, lost, lost)",
			"if(z, none, none)", "if(n + 1, 1 / 0, p)", "if(t, n + s, n)", "if(f, n, not n)", "if(not n, n, n)",
		},
	})
}

// TestFaults: operands that are not known, and the order in which they count:
// the first Fault, then a Pending, then what is wrong with the types (P7.1).
func TestFaults(t *testing.T) {
	testAll(t, map[string][]string{
		"!14": {
			"p / 0 + lost", "lost + p", "p + lost", "lost + one", "lost + none", "lost + s", "s + lost", "t * lost",
			"-lost", "not lost", "len(lost)", "lost & n", "n & lost", "lost = t", "n < lost", "lost != lost",
			"lost / 0", "0 % lost", "lost + 1 / 0", "p & lost", "not -lost", "len(p & lost)",
		},
		"!1":  {"one + lost", "one = p", "p = one", "-one", "-(one + none)", "(n + one) * (lost + p)", "p + one + lost"},
		"!15": {"state - one", "not state", "s <= state"},
		"!5":  {"none + lost", "none - p", "p - none", "-none", "not none", "len(none)", "none = none", "s % none", "n + none"},
		"!8":  {"1 / 0 + lost", "1 / 0 + (n & s)", "p + 1 / z", "1 % 0 = most + 1", "s + 1 / 0"},
		"!7":  {"most + 1 + lost", "most * 2 = 1 / 0", "p + (most + 1)", "most + 1 + p * 0 < lost"},
		"!9":  {"n + s + lost", "(n + s) * (1 / 0)", "not n = lost", "-t & none"},
		"?": {
			"p", "p + 1", "1 + p", "p / 0", "p % 0", "0 / p", "-p", "not p", "len(p)", "p & n", "n & p", "p * t", "s - p",
			"p = p", "p < s", "t <= p", "p != n", "p & long", "most + p", "-(p + s)", "p + t + s", "t + p",
		},
	})
	for n := 1; n <= 15; n++ {
		v := api.Value{Kind: api.Fault, N: n}
		l := append(some(), api.Fact{Name: "x", Has: v})
		for _, s := range []string{
			"x", "-x", "not x", "len(x)", "x + s", "s + x", "x + lost", "p + x", "x & n", "x < t", "x and f", "t and x",
			"x or t", "f or x", "if(x, n, n)", "if(t, x, n)", "if(f, n, x)", "-(x + 1) * lost",
		} {
			testOf(t, read(t, s), l, v)
		}
	}
}

// TestTypes: known operands of wrong types, whatever else is wrong (P7.1).
func TestTypes(t *testing.T) {
	testAll(t, map[string][]string{"!9": {
		"-t", "-s", "-e", "-false", "not n", "not s", "not 0", "not 1", "not e", "len(n)", "len(t)", "len(0)",
		"n + t", "t + n", "n + s", "s + n", "s + s", "t + t", "n - t", "e - n", "t - t", "n * t", "s * n", "e * e",
		"n / t", "t / n", "n / f", "n / e", "t / 0", "s / 0", "n % t", "s % n", "t % 0", "e % z", "f % f",
		"n & s", "s & n", "t & s", "s & t", "n & n", "t & t", "long & n", "e & 0",
		"n < t", "t < n", "n < s", "s < n", "t < s", "s < t", "z <= f", "f <= z", "z <= e", "t <= s", "z = f", "f = z",
		"z = e", "e = z", "f = e", "e = f", "1 = true", "z != f", "n != s", "s != t", "e != f", "0 = false",
		"(n < m) < n", "len(s) & s", "-not t", "not -n",
	}})
}

// signatures are the types of the operands that operators require (P6.1).
var signatures = map[int]string{
	api.Neg: "i", api.Mul: "ii", api.Div: "ii", api.Mod: "ii", api.Add: "ii", api.Sub: "ii", api.Not: "b",
	api.Join: "tt", api.Len: "t", api.Less: "ii bb tt", api.AtMost: "ii bb tt", api.Same: "ii bb tt", api.Other: "ii bb tt",
}

// operands are how many an operator has.
func operands(op int) int {
	switch op {
	case api.If:
		return 3
	case api.And, api.Or:
		return 2
	}
	return len(strings.Fields(signatures[op])[0])
}

// result of an operator whose operands have all been evaluated, also those that
// do not count: it is the same, as nothing that is evaluated does anything else.
func result(op int, l []api.Value) api.Value {
	kinds := ""
	for _, v := range l {
		kinds += " ibt?!"[v.Kind : v.Kind+1]
	}
	if op == api.If || op == api.And || op == api.Or {
		return decided(op, kinds, l)
	}
	if at := strings.Index(kinds, "!"); at >= 0 {
		return l[at]
	}
	if strings.Contains(kinds, "?") {
		return known("?")
	}
	if !slices.Contains(strings.Fields(signatures[op]), kinds) {
		return known("!9")
	}
	return strictly(op, l[0], l[len(l)-1])
}

// decided is the result of If, And and Or.
func decided(op int, kinds string, l []api.Value) api.Value {
	switch {
	case kinds[0] == '?' || kinds[0] == '!':
		return l[0]
	case kinds[0] != 'b':
		return known("!9")
	case op == api.If:
		return l[2-l[0].N]
	case (op == api.And) == (l[0].N == 0):
		return l[0]
	case kinds[1] == 'i' || kinds[1] == 't':
		return known("!9")
	}
	return l[1]
}

// strictly is the result of any other operator for operands of right types. The
// floats are exact where the result is in range.
func strictly(op int, v, w api.Value) api.Value {
	a, b := float64(v.N), float64(w.N)
	order := cmp.Compare(v.N, w.N) + strings.Compare(v.S, w.S) // one of them is 0
	switch op {
	case api.Neg:
		return inRange(-a)
	case api.Add:
		return inRange(a + b)
	case api.Sub:
		return inRange(a - b)
	case api.Mul:
		return inRange(a * b)
	case api.Div, api.Mod:
		if b == 0 {
			return known("!8")
		}
		quotient := math.Floor(a / b)
		return inRange(map[int]float64{api.Div: quotient, api.Mod: a - b*quotient}[op])
	case api.Join:
		if len(v.S+w.S) > 40 {
			return known("!1")
		}
		return api.Value{Kind: api.Text, S: v.S + w.S}
	case api.Len:
		return number(len(v.S))
	case api.Not:
		return api.Value{Kind: api.Bool, N: 1 - v.N}
	}
	return boolean(map[int]bool{api.Less: order < 0, api.AtMost: order <= 0, api.Same: order == 0, api.Other: order != 0}[op])
}

// inRange is an Int, or the fault in its place.
func inRange(n float64) api.Value {
	if math.Abs(n) > 1<<40 {
		return known("!7")
	}
	return number(int(n))
}

// tuples of n values of a list.
func tuples(values []api.Value, n int) [][]api.Value {
	if n == 0 {
		return [][]api.Value{nil}
	}
	var all [][]api.Value
	for _, l := range tuples(values, n-1) {
		for _, v := range values {
			all = append(all, append(slices.Clone(l), v))
		}
	}
	return all
}

// TestOperators: each operator with operands of all kinds (P7.1).
func TestOperators(t *testing.T) {
	var values []api.Value
	for _, fact := range some() {
		values = append(values, fact.Has)
	}
	for _, s := range []string{"1", "-1", "2", "-2", "1048576", "1048577", "1099511627775", `"a"`, `"aba"`, `"0"`, "!5", "!9"} {
		values = append(values, known(s))
	}
	for op := api.Neg; op <= api.Len; op++ {
		for _, l := range tuples(values, operands(op)) {
			x, list := api.Expr{Op: op}, []api.Fact(nil)
			for i, v := range l {
				name := "abc"[i : i+1]
				x.Args = append(x.Args, ref(name))
				list = append(list, api.Fact{Name: name, Has: v})
			}
			testOf(t, x, list, result(op, l))
		}
	}
}

// sample of a list: up to n formulas of each kind of value, evenly spread.
func sample(n int, list []api.Expr, l []api.Fact) []api.Expr {
	kinds := map[int][]api.Expr{}
	for _, x := range list {
		kind := eager(x, l).Kind
		kinds[kind] = append(kinds[kind], x)
	}
	var found []api.Expr
	for kind := api.Int; kind <= api.Fault; kind++ {
		step := (len(kinds[kind]) + n - 1) / n
		for i := 0; i < len(kinds[kind]); i += step {
			found = append(found, kinds[kind][i])
		}
	}
	return found
}

// higher formulas: those of all operators whose operands are in a sample of a
// list.
func higher(list []api.Expr, l []api.Fact) []api.Expr {
	samples := map[int][]api.Expr{1: sample(1000, list, l), 2: sample(13, list, l), 3: sample(7, list, l)}
	var found []api.Expr
	for op := api.Neg; op <= api.Len; op++ {
		n := operands(op)
		found = append(found, all(op, slices.Repeat([][]api.Expr{samples[n]}, n)...)...)
	}
	return found
}

// all formulas of an operator whose operands are taken from lists.
func all(op int, lists ...[]api.Expr) []api.Expr {
	l := []api.Expr{{Op: op}}
	for _, list := range lists {
		var longer []api.Expr
		for _, x := range l {
			for _, arg := range list {
				longer = append(longer, node(op, append(slices.Clone(x.Args), arg)...))
			}
		}
		l = longer
	}
	return l
}

// eager is the value of a formula of which all nodes are evaluated.
func eager(x api.Expr, l []api.Fact) api.Value {
	switch x.Op {
	case api.Const:
		return x.V
	case api.Ref:
		at := slices.IndexFunc(l, func(fact api.Fact) bool { return fact.Name == x.Name })
		if at < 0 {
			return known("!5")
		}
		return l[at].Has
	}
	var operands []api.Value
	for _, arg := range x.Args {
		operands = append(operands, eager(arg, l))
	}
	return result(x.Op, operands)
}

// TestEager: many formulas of depth 1 to 4 (P7.1).
func TestEager(t *testing.T) {
	var leaves []api.Expr
	for _, s := range []string{"n", "z", "most", "t", "f", "s", "long", "p", "lost", "none", "1", "true"} {
		leaves = append(leaves, read(t, s))
	}
	l, found := some(), map[int]int{}
	formulas := leaves
	for range 3 {
		formulas = append(formulas, higher(formulas, l)...)
	}
	for _, x := range formulas {
		want := eager(x, l)
		if v, e := Of(x, l); v != want || e != api.OK {
			t.Fatalf("Of(%v) = %v, %d, want %v", x, v, e, want)
		}
		found[want.Kind]++
	}
	for kind := api.Int; kind <= api.Fault; kind++ {
		if found[kind] < 3000 {
			t.Errorf("%d formulas are too much alike: %v", len(formulas), found)
		}
	}
}

// TestFirstFact: the first fact with a name counts, whatever its value is, and
// whatever key it has (P7.1).
func TestFirstFact(t *testing.T) {
	l := facts("b", "true", "a", "?", "a", "7", "b", "!14", "a", `"x"`, "c", "1", "b", "2")
	testOf(t, ref("a"), l, known("?"))
	testOf(t, ref("b"), l, known("true"))
	testOf(t, ref("a"), l[2:], number(7))
	testOf(t, ref("b"), l[1:], known("!14"))
	testOf(t, ref("a"), l[3:], known(`"x"`))
	testOf(t, ref("b"), l[4:], number(2))
	testOf(t, ref("a"), l[5:], known("!5"))
	testOf(t, read(t, "a + c"), l, known("?"))
	testOf(t, read(t, "a + c"), l[2:], number(8))
	testOf(t, read(t, "if(b, c, a)"), l, number(1))
	testOf(t, ref("a"), facts("a", "0", "a", "1"), number(0))
	testOf(t, ref("a"), facts("a", "!5", "a", "1"), known("!5"))
	for _, key := range []api.Value{{}, number(3), {Kind: 99, N: 2, S: "\n"}, {Kind: api.Int, N: math.MinInt}, {Kind: api.Bool, N: 2}, {Kind: api.Fault}} {
		list := []api.Fact{{Name: "a", Key: key, Has: number(1)}, {Name: "a", Has: number(2)}, {Name: "b", Key: key, Has: number(4)}}
		testOf(t, ref("a"), list, number(1))
		testOf(t, read(t, "a + b"), list, number(5))
	}
	var many []api.Fact
	for range 1 << 16 {
		many = append(many, facts("a", "3", "", `"x"`)...)
	}
	testOf(t, ref("b"), append(many, facts("b", "!2", "a", "4")...), known("!2"))
	testOf(t, ref("a"), append(many, facts("b", "!2", "a", "4")...), number(3))
	testOf(t, ref("b"), many, known("!5"))
}

// TestFactNames: a name is compared as a whole, and that of a fact need not be
// valid (P7.1).
func TestFactNames(t *testing.T) {
	for _, name := range []string{"", "A", "a ", " a", "aa", "a\x00", "b", "a1", "é", "if", "true", "1", strings.Repeat("a", 11)} {
		testOf(t, ref("a"), facts(name, "1"), known("!5"))
		testOf(t, ref("a"), facts(name, "1", "a", "2", name, "3"), number(2))
		testOf(t, read(t, "true"), facts(name, "1"), known("true"))
	}
	testOf(t, ref("ab"), facts("a", "1", "b", "2"), known("!5"))
	testOf(t, ref("a123456789"), facts("a12345678", "1", "a123456789", "2"), number(2))
	testOf(t, ref("none"), append(some(), facts("none", "1")...)[:len(some())], known("!5"))
}

// invalid are values that value.Check objects to.
func invalid() map[api.Errno][]api.Value {
	return map[api.Errno][]api.Value{
		api.ErrKind:  {{}, {Kind: -1}, {Kind: 6}, {Kind: math.MaxInt, N: 1, S: "\n"}},
		api.ErrOver:  {number(1<<40 + 1), number(-1<<40 - 1), number(math.MinInt), {Kind: api.Int, N: math.MaxInt, S: "a"}},
		api.ErrRange: {{Kind: api.Bool, N: 2}, {Kind: api.Bool, N: -1}, {Kind: api.Text, N: 1}, {Kind: api.Pending, N: 1}, {Kind: api.Fault}, {Kind: api.Fault, N: 16}},
		api.ErrSize:  {{Kind: api.Text, S: strings.Repeat("a", 41)}, {Kind: api.Text, S: strings.Repeat("\n", 41)}},
		api.ErrForm:  {{Kind: api.Text, S: "\n"}, {Kind: api.Text, S: "é"}, {Kind: api.Int, S: "a"}, {Kind: api.Pending, S: " "}, {Kind: api.Fault, N: 1, S: "a"}},
	}
}

// TestInvalidFacts: the first fact whose value is invalid, even if it does not
// count (P7.1).
func TestInvalidFacts(t *testing.T) {
	for want, list := range invalid() {
		for _, v := range list {
			bad := api.Fact{Name: "a", Has: v}
			for _, x := range []api.Expr{ref("a"), ref("n"), read(t, "7"), read(t, "n + 1"), read(t, "t or a"), read(t, "1 / 0")} {
				testError(t, x, []api.Fact{bad}, want)
				testError(t, x, append(some(), bad), want)
				testError(t, x, append([]api.Fact{bad}, some()...), want)
				testError(t, x, append(facts("a", "1", "n", "2"), bad), want)
			}
			for _, name := range []string{"", "A", "if", strings.Repeat("a", 99)} {
				testError(t, ref("n"), append(some(), api.Fact{Name: name, Key: number(1), Has: v}), want)
			}
			for other, l := range invalid() {
				testError(t, ref("a"), []api.Fact{bad, {Name: "a", Has: l[0]}}, want)
				testError(t, ref("n"), append(facts("b", "!1"), api.Fact{Name: "b", Has: l[0]}, bad), other)
			}
		}
	}
}

// TestInvalidFormulas: the errors of expr.Check come before those of the facts
// (P7.1).
func TestInvalidFormulas(t *testing.T) {
	deep := ref("n")
	for range 12 {
		deep = node(api.Neg, deep)
	}
	round := []api.Expr{{Op: api.Neg}}
	round[0].Args = round
	for want, list := range map[api.Errno][]api.Expr{
		api.ErrSize:  {round[0], {Args: make([]api.Expr, 60)}, {Op: api.If, Args: make([]api.Expr, 1<<20)}, node(api.Sub, full(t), ref("n"))},
		api.ErrRange: {deep, node(api.Neg, deep), node(0, deep), node(api.Or, ref("t"), deep)},
		api.ErrKind:  {{}, {Op: -1}, {Op: 19, Name: "n"}, {Op: math.MaxInt}, node(api.Or, ref("t"), node(0)), node(api.If, ref("t"), ref("n"), node(99))},
		api.ErrForm: {
			node(api.Add, ref("n")), node(api.Neg), node(api.Neg, ref("n"), ref("n")), node(api.Len), node(api.If, ref("t"), ref("n")),
			node(api.And), node(api.Or, ref("t")), node(api.Less, ref("n"), ref("n"), ref("n")), ref(""), ref("N"), ref("if"),
			{Op: api.Const}, constant(number(-1)), constant(known("?")), constant(known("!5")), constant(api.Value{Kind: api.Bool, N: 2}),
			{Op: api.Ref, Name: "n", V: number(1)}, {Op: api.Ref, Name: "n", Args: []api.Expr{ref("n")}},
			{Op: api.Neg, Name: "n", Args: []api.Expr{ref("n")}}, node(api.And, ref("f"), node(api.Not)), ref(strings.Repeat("a", 11)),
		},
	} {
		for _, x := range list {
			testError(t, x, nil, want)
			testError(t, x, some(), want)
			for _, l := range invalid() {
				testError(t, x, append(some(), api.Fact{Name: "n", Has: l[0]}), want)
			}
		}
	}
}

// full is a formula of as many nodes as there may be, each below a Neg.
func full(t *testing.T) api.Expr {
	t.Helper()
	sixteen, fourteen := "n", "n+n"
	for range 4 {
		sixteen = "(" + sixteen + "+" + sixteen + ")"
	}
	for range 2 {
		fourteen = "(" + fourteen + "+n)"
	}
	fourteen = "(" + fourteen + "+" + fourteen + "+" + fourteen + "+n+n)"
	return read(t, "-("+sixteen+"-"+fourteen+")")
}

// TestLimits: formulas as large and as deep as can be (P7.1).
func TestLimits(t *testing.T) {
	x := full(t)
	if n, _ := expr.Size(x); n != api.MaxNodes {
		t.Fatalf("%d nodes", n)
	}
	testOf(t, x, some(), number(-8))
	testOf(t, x, facts("n", "68719476736"), number(-1<<37))
	testOf(t, x, facts("n", "68719476737"), known("!7"))
	testOf(t, x, facts("n", "?"), known("?"))
	testOf(t, x, nil, known("!5"))
	minus, not := ref("n"), ref("t")
	for range 11 {
		minus, not = node(api.Neg, minus), node(api.Not, not)
	}
	testOf(t, minus, some(), number(-4))
	testOf(t, not, some(), known("false"))
	testOf(t, minus, facts("n", "!3"), known("!3"))
	testOf(t, not, facts("t", "?"), known("?"))
}

// roomy is a copy of a formula, with unused capacity that has something in it.
func roomy(x api.Expr) api.Expr {
	l := slices.Repeat([]api.Expr{ref("unused")}, len(x.Args)+2)
	for i, arg := range x.Args {
		l[i] = roomy(arg)
	}
	x.Args = l[:len(x.Args)]
	return x
}

// whole of a formula: also what is in its unused capacity.
func whole(x api.Expr) api.Expr {
	x.Args = slices.Clone(x.Args[:cap(x.Args)])
	for i, arg := range x.Args {
		x.Args[i] = whole(arg)
	}
	return x
}

// TestMemory: arguments stay as they are, and nothing is kept between calls.
func TestMemory(t *testing.T) {
	for _, s := range []string{"n", "n + m * 2", "if(t, s & s, none)", "not (n = m)", "-p", "f or z / 0 < lost", "unused"} {
		x, l := roomy(read(t, s)), append(some(), facts("unused", "1", "none", "2")...)
		l = l[:len(l)-2]
		formula, list := whole(x), slices.Clone(l[:cap(l)])
		want := eager(x, l)
		for range 9 {
			testOf(t, x, l, want)
			testOf(t, ref("n"), facts("n", "99", "none", "1", "unused", "1"), number(99))
			testError(t, x, append(slices.Clone(l), api.Fact{Name: "none"}), api.ErrKind)
		}
		if !reflect.DeepEqual(whole(x), formula) || !slices.Equal(l[:cap(l)], list) {
			t.Errorf("Of(%q) changed its arguments", s)
		}
	}
}
