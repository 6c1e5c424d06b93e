package names

import (
	"math"
	"reflect"
	"slices"
	"strings"
	"testing"

	"lychway/api"
	"lychway/expr"
	"lychway/lex"
)

// many is a string several times over.
func many(s string, n int) string { return strings.Repeat(s, n) }

// ref and number are formulas of one node, and node has Args.
func ref(name string) api.Expr { return api.Expr{Op: api.Ref, Name: name} }
func number(n int) api.Expr {
	return api.Expr{Op: api.Const, V: api.Value{Kind: api.Int, N: n}}
}
func node(op int, args ...api.Expr) api.Expr {
	return api.Expr{Op: op, Args: args}
}

// read is the formula of a notation.
func read(t *testing.T, s string) api.Expr {
	t.Helper()
	x, at, e := expr.Parse(s)
	if e != api.OK {
		t.Fatalf("Parse(%q) = %d, %d", s, at, e)
	}
	return x
}

// shown is the notation of a formula.
func shown(t *testing.T, x api.Expr) string {
	t.Helper()
	s, e := expr.Print(x)
	if e != api.OK {
		t.Fatalf("Print(%.99v) = %d", x, e)
	}
	return s
}

// tall is a formula with n nodes above the last one.
func tall(n int, last api.Expr) api.Expr {
	for range n {
		last = node(api.Neg, last)
	}
	return last
}

// large is a formula of an odd number of nodes without much depth. All of its
// Refs have this name.
func large(n int, name string) api.Expr {
	if n < 3 {
		return ref(name)
	}
	left := (n - 1) / 2
	left -= 1 - left%2 // each part has an odd number, too
	return node(api.Sub, large(left, name), large(n-1-left, name))
}

// invalid are formulas, and what is wrong with each.
func invalid() map[api.Errno][]api.Expr {
	return map[api.Errno][]api.Expr{
		api.ErrSize:  {large(61, "a"), tall(60, ref("a")), node(0, make([]api.Expr, 60)...)},
		api.ErrRange: {tall(12, ref("a")), tall(59, ref("a")), node(0, tall(11, ref("a")))},
		api.ErrKind:  {{}, {Op: -1}, {Op: 19}, node(api.Add, ref("a"), node(0)), {Op: 99, Name: "a"}},
		api.ErrForm: {
			node(api.Add, ref("a")), node(api.Len), node(api.Ref), ref("A"), ref("if"), ref(many("a", 11)),
			node(api.Not, ref("")), number(-1), {Op: api.Const}, {Op: api.Neg, Name: "a", Args: []api.Expr{ref("a")}},
			{Op: api.Ref, Name: "a", Args: []api.Expr{ref("b")}}, {Op: api.Ref, Name: "a", V: api.Value{Kind: api.Int}},
		},
	}
}

// formulas are valid, and together have all operators.
func formulas() []string {
	return []string{
		"a", "b", "c", "0", "true", `""`, `"a"`, `"a\"b"`, "a1", "aa", "a123456789", "iff", "-a", "--a", "not b",
		"a * b", "b / a", "a % c", "a + b", "b - b", "a & b", "c < b", "a <= a", "c = b", "a != 1",
		"a and b", "b or a", "if(a, b, c)", "if(c, b, a)", "if(a, 1, a)", "len(a)", "len(b & c)",
		"b + (a + b)", "a - (b - 1)", "(a or b) and not (c or a)", "-if(a < b, aa, -(a + b) * len(c))",
		"if(a = b and b = c, if(c, b, a), ab % ba)", "a + a + a + a + a + a", "1 + 2 * len(\"a\")",
	}
}

// words of a notation that are no keywords, rising, each once.
func words(t *testing.T, s string) []string {
	t.Helper()
	tokens, at, e := lex.Tokens(s)
	if e != api.OK {
		t.Fatalf("Tokens(%q) = %d, %d", s, at, e)
	}
	var list []string
	for _, token := range tokens {
		if token.Kind == api.Word && !lex.Key(token.S) {
			list = append(list, token.S)
		}
	}
	slices.Sort(list)
	return slices.Compact(list)
}

// testOf tests which names a formula has.
func testOf(t *testing.T, x api.Expr, want ...string) {
	t.Helper()
	if l, e := Of(x); !slices.Equal(l, want) || e != api.OK {
		t.Errorf("Of(%.99v) = %q, %d, want %q", x, l, e, want)
	}
}

// TestOf: names in increasing order, without duplicates (P5.1).
func TestOf(t *testing.T) {
	for s, want := range map[string][]string{
		"b + (a + b)":                       {"a", "b"},
		"a":                                 {"a"},
		"7":                                 {},
		`"a" & "b"`:                         {},
		`len("a") + b`:                      {"b"},
		"true or false":                     {},
		"not not x":                         {"x"},
		"a + a + a":                         {"a"},
		"if(c, b, a)":                       {"a", "b", "c"},
		"if(true, iff, note)":               {"iff", "note"},
		"if(-z, y, 1) = len(x & x)":         {"x", "y", "z"},
		"b + aa + a2 + a10 + a1 + a + ba1z": {"a", "a1", "a10", "a2", "aa", "b", "ba1z"},
		"z9 + z + a999999999 + a99999999":   {"a99999999", "a999999999", "z", "z9"},
	} {
		testOf(t, read(t, s), want...)
	}
	for _, op := range []int{
		api.Mul, api.Div, api.Mod, api.Add, api.Sub, api.Join,
		api.Less, api.AtMost, api.Same, api.Other, api.And, api.Or,
	} {
		testOf(t, node(op, ref("y"), ref("x")), "x", "y")
		testOf(t, node(op, ref("x"), ref("x")), "x")
		testOf(t, node(op, ref("x"), number(1)), "x")
		testOf(t, node(op, number(1), ref("x")), "x")
	}
	for _, op := range []int{api.Neg, api.Not, api.Len} {
		testOf(t, node(op, ref("x")), "x")
		testOf(t, node(op, number(1)))
	}
	testOf(t, tall(11, ref("x")), "x")
	testOf(t, large(59, "x"), "x")
	testOf(t, tall(1, large(59, "x")), "x")
}

// TestOfWords: the names are the words of the notation, and Has knows them,
// and no others (P5.1, P5.2).
func TestOfWords(t *testing.T) {
	for _, s := range formulas() {
		x, list := read(t, s), words(t, s)
		testOf(t, x, list...)
		for _, name := range append([]string{
			"", "a", "b", "c", "d", "a1", "aa", "ab", "if", "len", "true", "A", many("a", 11), "a ", "a\x00",
		}, list...) {
			if got, want := Has(x, name), slices.Contains(list, name); got != want {
				t.Errorf("Has(%q, %q) = %v", s, name, got)
			}
		}
	}
}

// TestOfMany: as many names as there can be, in whatever order they stand
// (P5.1).
func TestOfMany(t *testing.T) {
	var want []string
	for i := range 30 {
		want = append(want, string(rune('a'+i/10))+string(rune('0'+i%10)))
	}
	for step := 1; step < 30; step++ {
		if step%2 == 0 || step%3 == 0 || step%5 == 0 {
			continue // it would not come to each name
		}
		var level []api.Expr
		for i := range want {
			level = append(level, ref(want[i*step%30]))
		}
		for len(level) > 1 {
			var next []api.Expr
			for i := 0; i+1 < len(level); i += 2 {
				next = append(next, node(api.Add, level[i], level[i+1]))
			}
			level = append(next, level[len(level)-len(level)%2:]...)
		}
		if size, _ := expr.Size(level[0]); size != 59 {
			t.Fatalf("%d nodes", size)
		}
		for range 3 {
			testOf(t, level[0], want...)
		}
	}
}

// TestOfErrors: those of expr.Check (P5.1).
func TestOfErrors(t *testing.T) {
	for want, list := range invalid() {
		for _, x := range list {
			if l, e := Of(x); len(l) != 0 || e != want {
				t.Errorf("Of(%.99v) = %q, %d, want %d", x, l, e, want)
			}
		}
	}
}

// testHas tests whether a formula has a name.
func testHas(t *testing.T, x api.Expr, name string, want bool) {
	t.Helper()
	if got := Has(x, name); got != want {
		t.Errorf("Has(%.99v, %.99q) = %v", x, name, got)
	}
}

// TestHasInvalid: only a Ref counts, whatever else is wrong (P5.2).
func TestHasInvalid(t *testing.T) {
	testHas(t, api.Expr{}, "", false)
	testHas(t, api.Expr{}, "a", false)
	for op := -2; op < 25; op++ {
		x := api.Expr{Op: op, Name: "a"}
		testHas(t, x, "a", op == api.Ref)
		testHas(t, x, "b", false)
		testHas(t, x, "", false)
		testHas(t, api.Expr{Op: op}, "", op == api.Ref)
		x.Args = []api.Expr{ref("b"), ref("if"), ref("c")}
		testHas(t, x, "a", op == api.Ref)
		for _, name := range []string{"b", "if", "c"} {
			testHas(t, x, name, true)
		}
		testHas(t, node(op, node(op, node(op), node(op, ref("c"))), node(op)), "c", true)
	}
	testHas(t, api.Expr{Op: math.MinInt, Args: []api.Expr{ref("a")}}, "a", true)
	for _, name := range []string{"", "A", "a b", "and", "é", "\x00", "\xff", many("x", 1<<20)} {
		testHas(t, ref(name), name, true)
		testHas(t, node(0, ref("a"), ref(name)), name, true)
		testHas(t, ref(name), name+"a", false)
		testHas(t, ref(name+"a"), name, false)
	}
	testHas(t, api.Expr{Op: api.Const, V: api.Value{Kind: api.Text, S: "a"}}, "a", false)
	testHas(t, api.Expr{Op: api.Ref, Name: "b", V: api.Value{S: "a"}}, "a", false)
	testHas(t, api.Expr{Op: api.Neg, Args: []api.Expr{number(1), ref("a")}[:1]}, "a", false)
}

// TestHasLarge: formulas that are far too large and too deep (P5.2).
func TestHasLarge(t *testing.T) {
	deep := tall(1<<16-1, ref("a"))
	testHas(t, deep, "a", true)
	testHas(t, deep, "b", false)
	wide := api.Expr{Op: api.Len, Args: make([]api.Expr, 1<<20)}
	testHas(t, wide, "a", false)
	wide.Args[1<<20-1] = ref("a")
	testHas(t, wide, "a", true)
	wide.Args = append(slices.Repeat([]api.Expr{ref("b")}, 1<<20), ref("a"))
	testHas(t, wide, "a", true)
	testHas(t, wide, "c", false)
	testHas(t, large(1<<16+1, "a"), "a", true)
	testHas(t, large(1<<16+1, "a"), "b", false)
}

// TestPut: each Ref of the name, and nothing else, is replaced (P5.3).
func TestPut(t *testing.T) {
	for _, c := range []struct{ x, name, y, want string }{
		{"b + (a + b)", "a", "z", "b + (z + b)"},
		{"b + (a + b)", "b", "z", "z + (a + z)"},
		{"b + (a + b)", "c", "z", "b + (a + b)"},
		{"a", "a", "b * 2", "b * 2"},
		{"a", "b", "b * 2", "a"},
		{"a", "a", "a", "a"},
		{"a + b", "a", "a + 1", "a + 1 + b"},
		{"a + b", "a", "b", "b + b"},
		{"a + b", "b", "a + b", "a + (a + b)"},
		{"a - a", "a", "a - a", "a - a - (a - a)"},
		{"a * b", "a", "1 + 2", "(1 + 2) * b"},
		{`"a" & a`, "a", `"b"`, `"a" & "b"`},
		{"aa + ab + ba + a", "a", "0", "aa + ab + ba + 0"},
		{"if(a, a, a)", "a", "not a", "if(not a, not a, not a)"},
		{"if(a, b, c)", "b", "len(c)", "if(a, len(c), c)"},
		{"len(a) < -a", "a", "if(a, a, b)", "len(if(a, a, b)) < -if(a, a, b)"},
		{"not (a = b)", "b", "not b", "not (a = not b)"},
		{"7", "a", "b", "7"},
		{"a", "b", "c", "a"},
		{"a123456789", "a123456789", "1", "1"},
	} {
		x, e := Put(read(t, c.x), c.name, read(t, c.y))
		if !reflect.DeepEqual(x, read(t, c.want)) || e != api.OK {
			t.Errorf("Put(%q, %q, %q) = %v, %d, want %q", c.x, c.name, c.y, x, e, c.want)
		}
	}
}

// TestPutText: it is what replacing the word in the notation gives (P5.3).
func TestPutText(t *testing.T) {
	for _, s := range formulas() {
		for _, by := range formulas() {
			for _, name := range []string{"a", "b", "aa", "d"} {
				want, at, wrong := expr.Parse(reworded(s, name, "("+by+")"))
				if wrong == api.ErrSize && at == 0 {
					continue // the notation, or the formula, is too long
				}
				if x, e := Put(read(t, s), name, read(t, by)); !reflect.DeepEqual(x, want) || e != wrong {
					t.Errorf("Put(%q, %q, %q) = %v, %d, want %d", s, name, by, x, e, wrong)
				}
			}
		}
	}
}

// reworded is a notation with a word replaced wherever it is a token.
func reworded(s, word, by string) string {
	tokens, _, _ := lex.Tokens(s)
	for _, token := range slices.Backward(tokens) {
		if token.S == word {
			s = s[:token.At] + by + s[token.At+len(word):]
		}
	}
	return s
}

// TestEndless: a formula that can't be visited whole is just too large (P5.1,
// P5.3, and the general rule that every function terminates).
func TestEndless(t *testing.T) {
	round := []api.Expr{{Op: api.Neg}}
	round[0].Args = round
	if _, e := Of(round[0]); e != api.ErrSize {
		t.Errorf("Of = %d", e)
	}
	if _, e := Put(round[0], "a", ref("b")); e != api.ErrSize {
		t.Errorf("Put into it = %d", e)
	}
	if _, e := Put(ref("a"), "b", round[0]); e != api.ErrSize {
		t.Errorf("Put of it = %d", e)
	}
}

// refusePut tests that Put returns an error.
func refusePut(t *testing.T, x api.Expr, name string, y api.Expr, want api.Errno) {
	t.Helper()
	if z, e := Put(x, name, y); !reflect.DeepEqual(z, api.Expr{}) || e != want {
		t.Errorf("Put(%.99v, %q, %.99v) = %.99v, %d, want %d", x, name, y, z, e, want)
	}
}

// TestPutErrors: the formulas, then the name (P5.3).
func TestPutErrors(t *testing.T) {
	for want, list := range invalid() {
		for _, x := range list {
			for _, name := range []string{"a", "b", "if", ""} {
				refusePut(t, x, name, ref("b"), want)
				refusePut(t, ref("a"), name, x, want) // even if nothing is replaced
				for _, others := range invalid() {
					for _, y := range others {
						refusePut(t, x, name, y, want)
					}
				}
			}
		}
	}
	x, y := large(59, "a"), large(31, "b")
	for _, name := range []string{"", many("a", 11), many("#", 11)} {
		refusePut(t, ref("a"), name, ref("b"), api.ErrSize)
	}
	for _, name := range []string{
		"A", "1", "1a", "a b", "a_", "é", "a ", " a", "\x00", "and", "or", "not", "true", "false", "if", "len",
	} {
		refusePut(t, ref("a"), name, ref("b"), api.ErrForm)
		refusePut(t, x, name, y, api.ErrForm)
	}
	refusePut(t, x, "a", y, api.ErrSize)
	if z, e := Put(x, "c", y); !reflect.DeepEqual(z, x) || e != api.OK {
		t.Errorf("Put of a name that does not occur = %v, %d", z, e)
	}
}

// TestPutResult: how large and how deep the result may be (P5.3).
func TestPutResult(t *testing.T) {
	for i := range 12 {
		for j := range 12 {
			x, e := Put(tall(i, ref("a")), "a", tall(j, ref("b")))
			if i+j > 11 {
				refusePut(t, tall(i, ref("a")), "a", tall(j, ref("b")), api.ErrRange)
			} else if !reflect.DeepEqual(x, tall(i+j, ref("b"))) || e != api.OK {
				t.Errorf("Put at depth %d, of depth %d = %v, %d", i+1, j+1, x, e)
			}
		}
	}
	for n := 1; n < 60; n += 2 { // as an operand of a formula with n nodes
		for more := range 4 {
			x := node(api.Add, ref("a"), large(n, "c"))
			y := tall(more, large(57-n+1, "b")) // together 59 nodes, and more
			z, e := Put(x, "a", y)
			size, _ := expr.Size(node(api.Add, y, large(n, "c")))
			switch {
			case n == 59:
				refusePut(t, x, "a", y, api.ErrSize) // x itself is too large
			case size > 60:
				refusePut(t, x, "a", y, api.ErrSize)
			case !reflect.DeepEqual(z, node(api.Add, y, large(n, "c"))) || e != api.OK:
				t.Errorf("Put with %d nodes = %v, %d", size, z, e)
			}
		}
	}
	thirty := large(29, "a") // 15 of its nodes are replaced
	if x, e := Put(thirty, "a", read(t, "-(-b)")); e != api.OK {
		t.Errorf("Put with 59 nodes = %v, %d", x, e)
	}
	refusePut(t, thirty, "a", read(t, "---b"), api.ErrSize)
	refusePut(t, node(api.Add, tall(10, ref("a")), large(29, "a")), "a", tall(3, ref("b")), api.ErrSize)
	refusePut(t, node(api.Add, tall(10, ref("a")), large(17, "b")), "a", tall(3, ref("b")), api.ErrRange)
}

// strange are formulas that no function may choke on, or change.
func strange() []api.Expr {
	list := []api.Expr{
		{}, {Op: -5, V: api.Value{Kind: 9, N: -9, S: "\xff"}, Name: "if"},
		{Op: api.Ref, Name: "", Args: []api.Expr{ref("a"), {}, node(3, node(4), ref("b"))}},
		{Op: math.MaxInt, Name: many("x", 99), Args: []api.Expr{number(-1), {Args: []api.Expr{{Args: []api.Expr{{}}}}}}},
		{Op: api.Const, V: api.Value{Kind: api.Int, N: math.MinInt}, Args: make([]api.Expr, 1000)},
		large(1001, "a"), tall(1000, ref("")), node(0, []api.Expr{}...),
	}
	for _, x := range invalid() {
		list = append(list, x...)
	}
	for _, s := range formulas() {
		x, _, _ := expr.Parse(s)
		list = append(list, x)
	}
	return list
}

// same: are two formulas the same, be their empty lists nil or not?
func same(x, y api.Expr) bool {
	return x.Op == y.Op && x.V == y.V && x.Name == y.Name && slices.EqualFunc(x.Args, y.Args, same)
}

// TestCopy: a copy is the same, valid or not (P5.4).
func TestCopy(t *testing.T) {
	for _, x := range strange() {
		if y := Copy(x); !same(x, y) {
			t.Errorf("Copy(%.99v) = %.99v", x, y)
		}
	}
	wide := api.Expr{Op: api.Len, Args: make([]api.Expr, 1<<20)}
	wide.Args[1<<20-1] = ref("a")
	if !same(wide, Copy(wide)) {
		t.Error("a wide formula is not the same")
	}
	deep := Copy(tall(1<<16-1, ref("a")))
	if size, depth := expr.Size(deep); size != 1<<16 || depth != 1<<16 || !Has(deep, "a") {
		t.Errorf("a deep formula has %d nodes and depth %d", size, depth)
	}
}

// places that the lists of a formula have in memory, with the unused ones,
// each with how often it is found.
func places(found map[*api.Expr]int, x api.Expr) {
	all := x.Args[:cap(x.Args)]
	for i := range all {
		found[&all[i]]++
	}
	for _, arg := range x.Args {
		places(found, arg)
	}
}

// testNew tests that no two lists of a result share memory, nor any with the
// arguments.
func testNew(t *testing.T, result api.Expr, args ...api.Expr) {
	t.Helper()
	old, found := map[*api.Expr]int{}, map[*api.Expr]int{}
	for _, x := range args {
		places(old, x)
	}
	places(found, result)
	for place, n := range found {
		if n > 1 || old[place] > 0 {
			t.Fatalf("%.99v: a place is shared, found %d times", result, n)
		}
	}
}

// roomy is a formula whose lists have unused capacity.
func roomy(x api.Expr) api.Expr {
	list := make([]api.Expr, 0, len(x.Args)+3)
	for _, arg := range x.Args {
		list = append(list, roomy(arg))
	}
	for i := len(list); i < cap(list); i++ {
		list[:cap(list)][i] = node(api.Not, ref("unused"))
	}
	x.Args = list
	return x
}

// unused: is all unused capacity of a roomy formula as it was?
func unused(x api.Expr) bool {
	all := x.Args[:cap(x.Args)]
	return !slices.ContainsFunc(all[len(x.Args):], func(y api.Expr) bool {
		return !same(y, node(api.Not, ref("unused")))
	}) && !slices.ContainsFunc(x.Args, func(arg api.Expr) bool { return !unused(arg) })
}

// TestMemory: results are new memory, and arguments stay as they are.
func TestMemory(t *testing.T) {
	for _, x := range strange() {
		x = roomy(x)
		y := Copy(x)
		testNew(t, y, x)
		testNew(t, Copy(x), y)
		Of(x)
		Has(x, "a")
		if Has(x, "unused") || !same(x, y) || !unused(x) {
			t.Errorf("%.99v was changed", x)
		}
	}
	list := []api.Expr{ref("a"), ref("a")}
	twice := node(api.Add, node(api.Sub, list...), node(api.Mul, list...))
	testNew(t, Copy(twice), twice)
	z, _ := Put(twice, "c", twice)
	testNew(t, z, twice)
	for _, s := range formulas() {
		for _, by := range append(formulas(), s) {
			x, y := roomy(read(t, s)), roomy(read(t, by))
			z, _ := Put(x, "a", y)
			testNew(t, z, x, y)
			if z, _ = Put(x, "b", x); Has(z, "unused") {
				t.Errorf("Put(%q, b) = %v", s, z)
			}
			testNew(t, z, x)
			if !same(x, read(t, s)) || !same(y, read(t, by)) || !unused(x) || !unused(y) {
				t.Errorf("Put(%q, %q) changed them", s, by)
			}
		}
	}
	x := read(t, "b + a")
	l, _ := Of(x)
	l[0], l[1] = "x", "y"
	_ = append(l, "z")
	testOf(t, x, "a", "b")
}

// TestPutApart: what is put in several places is in each of them a formula of
// its own (P5.3).
func TestPutApart(t *testing.T) {
	y := read(t, "b + 1")
	z, _ := Put(read(t, "a * a"), "a", y)
	z.Args[0].Args[0] = ref("c")
	if s := shown(t, z); s != "(c + 1) * (b + 1)" {
		t.Errorf("it becomes %q", s)
	}
	if s := shown(t, y); s != "b + 1" {
		t.Errorf("what was put becomes %q", s)
	}
	c := Copy(z)
	c.Args[1].Args[1].V.N = 7
	c.Args[1].Args[0].Name = "d"
	if s, of := shown(t, z), shown(t, c); s != "(c + 1) * (b + 1)" || of != "(c + 1) * (d + 7)" {
		t.Errorf("%q and its copy %q are one", s, of)
	}
}
