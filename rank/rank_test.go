package rank

import (
	"math"
	"reflect"
	"slices"
	"strconv"
	"strings"
	"testing"

	"lychway/api"
	"lychway/expr"
	"lychway/field"
)

// input, formula and lookup are fields, the latter two with the notation of
// their Source, which must be valid.
func input(name string, kind int) api.Field {
	return api.Field{Name: name, Kind: api.Input, Type: kind}
}
func formula(name string, kind int, source string) api.Field {
	return api.Field{Name: name, Kind: api.Formula, Type: kind, Source: read(source)}
}
func lookup(name string, kind int, source string) api.Field {
	return api.Field{Name: name, Kind: api.Lookup, Type: kind, Source: read(source)}
}

// read is the formula of a notation.
func read(s string) api.Expr {
	x, at, e := expr.Parse(s)
	if e != api.OK {
		panic("Parse of " + s + ": error " + strconv.Itoa(int(e)) + " at " + strconv.Itoa(at))
	}
	return x
}

// numbers are Formulas of type Int, each with its Source: "b: a + 1".
func numbers(list ...string) []api.Field {
	var l []api.Field
	for _, s := range list {
		name, source, _ := strings.Cut(s, ": ")
		l = append(l, formula(name, api.Int, source))
	}
	return l
}

// fields of all kinds and types, not in the order of their names; their ranks
// are 1, 0, 2, 0, 4, 3, 0, 5, 5.
func fields() []api.Field {
	return []api.Field{
		formula("b", api.Int, "a + 1"), input("a", api.Int), lookup("c", api.Text, "b"), input("yes", api.Bool),
		formula("d", api.Bool, "yes and len(c) < e"), lookup("e", api.Int, "s & c"), input("s", api.Text),
		formula("u", api.Text, `if(d, c, "none")`), lookup("v", api.Bool, "not d"),
	}
}

// chain of n fields, of which each depends directly on the one behind it.
func chain(n int) []api.Field {
	var l []api.Field
	for i := range n - 1 {
		l = append(l, formula("a"+strconv.Itoa(i), api.Int, "a"+strconv.Itoa(i+1)))
	}
	return append(l, input("a"+strconv.Itoa(n-1), api.Int))
}

// turned is a list from back to front.
func turned[T any](l []T) []T {
	l = slices.Clone(l)
	slices.Reverse(l)
	return l
}

// shown are fields as text: the Kind, the Type, and the Source of each.
func shown(l []api.Field) string {
	var list []string
	for _, f := range l[:min(len(l), 20)] {
		source, _ := expr.Print(f.Source)
		list = append(list, strconv.Quote(f.Name)+" "+strconv.Itoa(f.Kind)+" "+strconv.Itoa(f.Type)+": "+source)
	}
	return "[" + strings.Join(list, "; ") + "]"
}

// testRanks tests the ranks of fields, and that their order follows from them.
func testRanks(t *testing.T, l []api.Field, want ...int) {
	t.Helper()
	if ranks, cycle, e := Of(l); !slices.Equal(ranks, want) || len(cycle) > 0 || e != api.OK {
		t.Errorf("Of(%s) = %v, %q, %d, want %v", shown(l), ranks, cycle, e, want)
	}
	var sorted []int
	for rank := range l {
		for i := range l {
			if want[i] == rank {
				sorted = append(sorted, i)
			}
		}
	}
	if order, e := Order(l); !slices.Equal(order, sorted) || e != api.OK {
		t.Errorf("Order(%s) = %v, %d, want %v", shown(l), order, e, sorted)
	}
}

// testError tests what is wrong with fields, for all functions and for names
// of all sorts, and the cycle.
func testError(t *testing.T, l []api.Field, want api.Errno, wanted ...string) {
	t.Helper()
	if ranks, cycle, e := Of(l); len(ranks) > 0 || !slices.Equal(cycle, wanted) || e != want {
		t.Errorf("Of(%s) = %v, %q, %d, want %q, %d", shown(l), ranks, cycle, e, wanted, want)
	}
	if order, e := Order(l); len(order) > 0 || e != want {
		t.Errorf("Order(%s) = %v, %d, want %d", shown(l), order, e, want)
	}
	asked := []string{"", "none", "if", "A"}
	for _, f := range l[:min(len(l), 15)] {
		asked = append(asked, f.Name)
	}
	for _, name := range asked {
		if hangs, e := Hangs(l, name); len(hangs) > 0 || e != want {
			t.Errorf("Hangs(%s, %q) = %v, %d, want %d", shown(l), name, hangs, e, want)
		}
	}
}

// TestOf: the rank of each field (P10.1), and the order (P10.2).
func TestOf(t *testing.T) {
	a, s, yes := input("a", api.Int), input("s", api.Text), input("yes", api.Bool)
	testRanks(t, nil)
	testRanks(t, []api.Field{})
	testRanks(t, []api.Field{a}, 0)
	testRanks(t, []api.Field{a, s, yes}, 0, 0, 0)
	testRanks(t, []api.Field{{Name: "a", Kind: api.Input, Type: api.Int, Source: api.Expr{Args: []api.Expr{}}}}, 0)
	testRanks(t, []api.Field{formula("b", api.Int, "1 / 0"), lookup("c", api.Int, `"x"`)}, 0, 0) // fields that depend on none
	testRanks(t, []api.Field{a, formula("b", api.Int, "a"), lookup("c", api.Int, "b")}, 0, 1, 2)
	testRanks(t, []api.Field{lookup("c", api.Int, "b"), formula("b", api.Int, "a"), a}, 2, 1, 0)
	testRanks(t, []api.Field{formula("b", api.Int, "a"), a, lookup("c", api.Text, "a")}, 1, 0, 1)
	testRanks(t, []api.Field{lookup("b", api.Bool, "yes = c"), yes, lookup("c", api.Bool, "yes")}, 2, 0, 1)
	testRanks(t, fields(), 1, 0, 2, 0, 4, 3, 0, 5, 5)
	testRanks(t, turned(fields()), 5, 5, 0, 3, 4, 0, 2, 0, 1)
}

// TestDepends: each field counts whose name occurs in a Source, wherever it
// does, even if the value does not depend on it (P10.1).
func TestDepends(t *testing.T) {
	for _, source := range []string{
		"b", "-b", "b + b", "b * 0", "0 * b", "1 - (2 - b)", "if(true, 1, b)", "if(false, b, 1)", "if(true or b = 0, 1, 2)", "if(b = b, a, a)",
		"1 / 0 + b", `len(if(true, "", if(b < 1, "x", "y")))`, "a + b", "b + a", "-(-(-(-(-(-(-(-b)))))))", "a + (a + (a + (a + b)))",
	} {
		for _, f := range []api.Field{formula("c", api.Int, source), lookup("c", api.Bool, source)} {
			testRanks(t, []api.Field{input("a", api.Int), formula("b", api.Int, "a"), f}, 0, 1, 2)
			testRanks(t, []api.Field{f, input("a", api.Int), lookup("b", api.Int, "true")}, 1, 0, 0)
			testRanks(t, []api.Field{formula("d", api.Int, "a"), formula("b", api.Int, "d"), f, input("a", api.Int)}, 1, 2, 3, 0)
			testHangs(t, []api.Field{f, input("a", api.Int), input("b", api.Int)}, "b", 0, 2)
		}
	}
	testRanks(t, append(numbers("b: 1", "ab: b1", "c: b + 1 - b2"), input("b1", api.Int), input("b2", api.Int)), 0, 1, 1, 0, 0)
}

// TestGreatest: the greatest rank of those on which a field depends directly
// counts, and not how many there are (P10.1).
func TestGreatest(t *testing.T) {
	a := input("a", api.Int)
	testRanks(t, append(numbers("b: a", "c: b + a", "d: a + c + b", "e: a + b"), a), 1, 2, 3, 2, 0)
	testRanks(t, append(numbers("e: a + b", "d: c + b + a", "c: a + b", "b: a"), a), 2, 3, 2, 1, 0)
	testRanks(t, append(numbers("x: y + z", "y: a", "z: a", "w: x + y + z + a"), a), 2, 1, 1, 3, 0)
	testRanks(t, numbers("a: b + c + d + e + f + g", "b: 1", "c: 2", "d: 3", "e: 4", "f: 5", "g: 6"), 1, 0, 0, 0, 0, 0, 0)
	testRanks(t, numbers("a: 1", "b: a", "c: a", "d: a", "e: b + c + d", "f: b"), 0, 1, 1, 1, 2, 2)
	testRanks(t, numbers("f: e + d", "e: 1", "d: c", "c: b", "b: e", "g: e"), 4, 0, 3, 2, 1, 1)
}

// TestChain: as many ranks as there can be, forwards and backwards (P10.1).
func TestChain(t *testing.T) {
	for n := 1; n <= api.MaxFields; n++ {
		var rising []int
		for i := range n {
			rising = append(rising, i)
		}
		testRanks(t, chain(n), turned(rising)...)
		testRanks(t, turned(chain(n)), rising...)
		for i, f := range chain(n) {
			testHangs(t, chain(n), f.Name, rising[:i+1]...)
			testHangs(t, turned(chain(n)), f.Name, rising[n-1-i:]...)
		}
	}
	testError(t, chain(15), api.ErrSize)
}

// TestCycle: the cycle that is found from the first field without a rank on
// (P10.1); no function has another result then.
func TestCycle(t *testing.T) {
	for want, lists := range map[string][][]string{
		"a":     {{"a: a"}, {"a: a + 1"}, {"a: if(true, 1, a)"}, {"b: 1", "a: b + a"}, {"c: a", "b: c", "a: b + a"}, {"b: a", "a: a + b"}},
		"x y":   {{"x: y", "y: x"}, {"z: x", "x: y", "y: x"}, {"a: 1", "z: 2 * x", "y: x - a", "x: y"}, {"x: a + y", "a: b", "b: 1", "y: x + b"}},
		"y x":   {{"y: x", "x: y"}, {"z: y", "x: y", "y: x"}, {"b: a", "a: y", "x: y", "y: x"}, {"y: a + x", "a: 1", "x: y + z", "z: 7"}},
		"a b c": {{"a: b", "b: c", "c: a"}, {"d: a + b", "c: a", "a: b", "b: c"}, {"d: c + a", "c: a", "b: c", "a: b + d"}},
		"b a c": {{"b: a", "a: c", "c: b"}, {"z: y", "y: b + c", "c: b", "a: c", "b: a"}, {"b: a + c + b", "a: c", "c: b"}},
		"q r":   {{"p: q", "q: r", "r: q"}, {"p: q", "r: q", "q: r + s", "s: p"}, {"o: p", "p: q + s", "q: r", "r: q + s", "s: o"}},
	} {
		for _, list := range lists {
			testError(t, numbers(list...), api.ErrCycle, strings.Split(want, " ")...)
		}
	}
}

// TestCycleWay: of the fields without a rank on which one depends directly,
// the one with the smallest name is next, wherever it stands (P10.1).
func TestCycleWay(t *testing.T) {
	for want, lists := range map[string][][]string{
		"a m": {{"a: z + m", "z: a", "m: a"}, {"a: m + z", "m: a", "z: a"}, {"a: z + y + m", "z: a", "y: z", "m: a"}},
		"a z": {{"a: b + z", "b: 1", "z: a"}, {"b: 1", "c: b", "a: b + c + z", "z: c + a"}}, // those with a rank are passed over
		"a":   {{"c: a + d", "a: a", "d: c"}, {"c: d + a", "d: c", "a: d + a + c"}, {"x: x1", "x1: a", "a: a + x"}},
		"d c": {{"d: c + e", "b: b", "c: d", "e: d", "a: a"}}, // cycles that are not reached do not count
		"b":   {{"b: b", "a: a"}, {"e: 1", "b: b + e", "a: a + b"}, {"b: c + b", "c: b"}},
		// Names are compared by their bytes.
		"a1": {{"x: a2 + a1", "a1: a1", "a2: a2"}}, "a10": {{"x: a2 + a10", "a2: a2", "a10: a10"}, {"x: aa + a10", "aa: aa", "a10: a10"}},
		"a a9": {{"a: aa + a9", "aa: a", "a9: a"}, {"a: a9 + aa", "a9: a", "aa: a"}},
		"abcdefghi": {
			{"x: abcdefghij + abcdefghi", "abcdefghij: abcdefghij", "abcdefghi: abcdefghi"},
			{"x: b + abcdefghi", "b: b", "abcdefghi: abcdefghi"},
		},
	} {
		for _, list := range lists {
			testError(t, numbers(list...), api.ErrCycle, strings.Split(want, " ")...)
		}
	}
}

// TestCycleKinds: fields of all types and of both kinds that have a Source are
// in cycles (P10.1).
func TestCycleKinds(t *testing.T) {
	for _, kind := range []int{api.Int, api.Bool, api.Text} {
		testError(t, []api.Field{formula("a", kind, "a")}, api.ErrCycle, "a")
		testError(t, []api.Field{lookup("a", kind, "a")}, api.ErrCycle, "a")
		testError(t, []api.Field{lookup("a", kind, "b = c"), lookup("b", api.Text, "a"), input("c", api.Text)}, api.ErrCycle, "a", "b")
		testError(t, []api.Field{input("c", kind), formula("a", kind, "if(c = c, c, b)"), lookup("b", kind, "a")}, api.ErrCycle, "a", "b")
	}
	l := fields()
	l[1] = lookup("a", api.Int, "v") // d depends on c and e, both of them in a cycle
	testError(t, l, api.ErrCycle, "b", "a", "v", "d", "c")
	l[0] = formula("b", api.Int, "1")
	testRanks(t, l, 0, 5, 1, 0, 3, 2, 0, 4, 4)
}

// TestCycleLimits: the longest cycle, and the longest way to a short one
// (P10.1).
func TestCycleLimits(t *testing.T) {
	for n := 1; n <= api.MaxFields; n++ {
		l, all := chain(n), []string(nil)
		for _, f := range l {
			all = append(all, f.Name)
		}
		for i, f := range l {
			l[n-1] = lookup(l[n-1].Name, api.Int, f.Name)
			testError(t, l, api.ErrCycle, all[i:]...)
			testError(t, turned(l), api.ErrCycle, append([]string{all[n-1]}, all[i:n-1]...)...)
		}
	}
	l := append(chain(14), formula("b", api.Int, "b"))
	testError(t, l, api.ErrSize)
	testError(t, l[1:], api.ErrCycle, "b")
}

// TestOrder: by rank, and by place within one rank, but never by name (P10.2).
func TestOrder(t *testing.T) {
	l := append(numbers("z: y", "y: 1", "x: 2", "w: x", "v: w + z", "u: z", "t: 3"), input("s", api.Text), input("a", api.Bool))
	for _, c := range []struct {
		l    []api.Field
		want []int
	}{
		{nil, nil}, {fields()[1:2], []int{0}}, {chain(4), []int{3, 2, 1, 0}}, {turned(chain(4)), []int{0, 1, 2, 3}},
		{fields(), []int{1, 3, 6, 0, 2, 5, 4, 7, 8}}, {turned(fields()), []int{2, 5, 7, 8, 6, 3, 4, 0, 1}},
		{l, []int{1, 2, 6, 7, 8, 0, 3, 4, 5}}, {turned(l), []int{0, 1, 2, 6, 7, 5, 8, 3, 4}},
	} {
		if order, e := Order(c.l); !slices.Equal(order, c.want) || e != api.OK {
			t.Errorf("Order(%s) = %v, %d, want %v", shown(c.l), order, e, c.want)
		}
	}
}

// testHangs tests which fields hang on one.
func testHangs(t *testing.T, l []api.Field, name string, want ...int) {
	t.Helper()
	if hangs, e := Hangs(l, name); !slices.Equal(hangs, want) || e != api.OK {
		t.Errorf("Hangs(%s, %q) = %v, %d, want %v", shown(l), name, hangs, e, want)
	}
}

// TestHangs: the field itself and all that depend on it, directly or not
// (P10.3).
func TestHangs(t *testing.T) {
	want := map[string][]int{
		"a": {0, 1, 2, 4, 5, 7, 8}, "b": {0, 2, 4, 5, 7, 8}, "c": {2, 4, 5, 7, 8}, "d": {4, 7, 8}, "e": {4, 5, 7, 8},
		"s": {4, 5, 6, 7, 8}, "u": {7}, "v": {8}, "yes": {3, 4, 7, 8},
	}
	for _, f := range fields() {
		other := []int(nil)
		for _, i := range turned(want[f.Name]) {
			other = append(other, len(fields())-1-i)
		}
		testHangs(t, fields(), f.Name, want[f.Name]...)
		testHangs(t, turned(fields()), f.Name, other...)
	}
	l := append(numbers("e: d + c", "d: b", "c: b", "b: a", "f: 1"), input("a", api.Int), input("aa", api.Int))
	for i, list := range [][]int{{0}, {0, 1}, {0, 2}, {0, 1, 2, 3}, {4}, {0, 1, 2, 3, 5}, {6}} {
		testHangs(t, l, l[i].Name, list...)
	}
	testHangs(t, []api.Field{input("a", api.Text)}, "a", 0)
}

// TestHangsNone: a name that no field has (P10.3).
func TestHangsNone(t *testing.T) {
	for _, l := range [][]api.Field{nil, {}, fields(), chain(14), numbers("a2: 1"), fields()[:0]} {
		for _, name := range []string{"", "x", "A", "aa", "a ", " a", "ye", "yess", "if", "len", "none", "b\x00", strings.Repeat("a", 99)} {
			if hangs, e := Hangs(l, name); len(hangs) > 0 || e != api.ErrNone {
				t.Errorf("Hangs(%s, %q) = %v, %d, want %d", shown(l), name, hangs, e, api.ErrNone)
			}
		}
	}
}

// TestErrors: what field.Check says comes before a cycle, and a cycle before a
// name that no field has (P10.1 to P10.3).
func TestErrors(t *testing.T) {
	round := []api.Expr{{Op: api.Neg}}
	round[0].Args = round
	for want, list := range map[api.Errno][]api.Field{
		api.ErrSize:  {{}, input("aaaaaaaaaaa", api.Int), {Name: "c", Kind: api.Lookup, Type: api.Int, Source: round[0]}},
		api.ErrForm:  {input("if", api.Int), input("A", api.Int), {Name: "c", Kind: api.Input, Type: api.Int, Source: read("x")}},
		api.ErrKind:  {input("c", api.Fault), {Name: "c", Kind: 4, Type: api.Int}, {Name: "c", Kind: api.Formula, Type: api.Int}, {Name: "c"}},
		api.ErrTwice: {input("x", api.Int), formula("x", api.Int, "x"), lookup("y", api.Text, "none")},
		api.ErrNone:  {formula("c", api.Int, "none"), lookup("c", api.Int, "x + none"), formula("c", api.Bool, "if(true, none, x)")},
		api.ErrType:  {formula("c", api.Text, "x"), lookup("c", api.Int, "not x"), formula("c", api.Bool, "c = true and 1"), formula("c", api.Text, "1 = 2")},
	} {
		for _, f := range list {
			for _, others := range [][]api.Field{numbers("x: 1", "y: x"), numbers("x: y", "y: x"), numbers("y: y", "x: x + y")} {
				testError(t, append(others, f), want)
				testError(t, append([]api.Field{f}, others...), want)
				testError(t, []api.Field{others[0], f, others[1]}, want)
			}
			testError(t, append(append(chain(12), numbers("x: y", "y: x")...), f), api.ErrSize)
		}
	}
	testError(t, make([]api.Field, 1<<18), api.ErrSize)
	testError(t, []api.Field{{Name: "a", Kind: math.MinInt, Type: math.MaxInt}}, api.ErrKind)
}

// graph of up to 32 fields: each has a set of fields on which it depends
// directly, one bit for each.
type graph []uint32

// walks are whether a walk of n steps begins at each field, from each field to
// one on which it depends directly.
func (g graph) walks(n int) []bool {
	from := slices.Repeat([]bool{true}, len(g))
	for range n {
		before := slices.Clone(from)
		for i, set := range g {
			from[i] = false
			for j := range g {
				from[i] = from[i] || set>>j&1 == 1 && before[j]
			}
		}
	}
	return from
}

// ranks of the fields: how long the longest walk is. Those with walks without
// an end have none, but the number of fields.
func (g graph) ranks() []int {
	result := make([]int, len(g))
	for n := 1; n <= len(g); n++ {
		for i, has := range g.walks(n) {
			if has {
				result[i] = n
			}
		}
	}
	return result
}

// closure has the sets of fields on which a field depends, directly or not.
func (g graph) closure() graph {
	all := slices.Clone(g)
	for between := range all {
		for i := range all {
			if all[i]>>between&1 == 1 {
				all[i] |= all[between]
			}
		}
	}
	return all
}

// cycle of names, found as the chapter says.
func (g graph) cycle(called []string) []string {
	endless := g.walks(len(g))
	at, met, way := slices.Index(endless, true), map[int]int{}, []string(nil)
	for {
		if step, again := met[at]; again {
			return way[step:]
		}
		met[at] = len(way)
		way = append(way, called[at])
		next := -1
		for j, name := range called {
			if g[at]>>j&1 == 1 && endless[j] && (next < 0 || name < called[next]) {
				next = j
			}
		}
		at = next
	}
}

// fields of a graph, with these names. Those that depend on no field are of
// all kinds.
func (g graph) fields(called []string) []api.Field {
	var l []api.Field
	for i, set := range g {
		f := api.Field{Name: called[i], Kind: []int{api.Formula, api.Lookup, api.Input}[(i+int(set))%3], Type: api.Int}
		terms := []api.Expr{{Op: api.Const, V: api.Value{Kind: api.Int, N: i}}}
		for j := range g {
			if set>>j&1 == 1 {
				terms = append(terms, api.Expr{Op: api.Ref, Name: called[j]})
			}
		}
		switch {
		case f.Kind != api.Input:
			f.Source = sum(terms)
		case set != 0:
			f.Kind, f.Source = api.Formula, sum(terms[1:])
		}
		l = append(l, f)
	}
	return l
}

// sum of some formulas, without much depth.
func sum(l []api.Expr) api.Expr {
	if len(l) == 1 {
		return l[0]
	}
	return api.Expr{Op: api.Add, Args: []api.Expr{sum(l[:len(l)/2]), sum(l[len(l)/2:])}}
}

// testGraph tests the ranks, the order, the cycle, and what hangs on what. Is
// there a cycle?
func testGraph(t *testing.T, g graph, called []string) bool {
	t.Helper()
	l, ranks, all := g.fields(called), g.ranks(), g.closure()
	if slices.Contains(ranks, len(g)) {
		testError(t, l, api.ErrCycle, g.cycle(called)...)
		return true
	}
	testRanks(t, l, ranks...)
	for j, name := range called {
		var want []int
		for i := range g {
			if i == j || all[i]>>j&1 == 1 {
				want = append(want, i)
			}
		}
		testHangs(t, l, name, want...)
	}
	return false
}

// orders of some names: all that there are.
func orders(list ...string) [][]string {
	if len(list) == 0 {
		return [][]string{nil}
	}
	var result [][]string
	for i, name := range list {
		rest := slices.Delete(slices.Clone(list), i, i+1)
		for _, order := range orders(rest...) {
			result = append(result, append([]string{name}, order...))
		}
	}
	return result
}

// TestGraphs: all graphs of three fields by all orders of their names, and
// those of four in which no field depends directly on itself by five orders.
// It is known how many of them have no cycle: 25 and 543.
func TestGraphs(t *testing.T) {
	for _, called := range orders("a", "b", "ab") {
		cycles := 0
		for n := range uint32(1 << 9) {
			if testGraph(t, graph{n & 7, n >> 3 & 7, n >> 6}, called) {
				cycles++
			}
		}
		if cycles != 1<<9-25 {
			t.Errorf("%d graphs of three fields have cycles", cycles)
		}
	}
	for i, called := range orders("k", "b1", "b", "b10") {
		if i%5 != 1 { // all of them would take long
			continue
		}
		cycles := 0
		for n := range uint32(1 << 12) {
			a, b, c, d := n&7, n>>3&7, n>>6&7, n>>9
			if testGraph(t, graph{a << 1, b&1 | b>>1<<2, c&3 | c>>2<<3, d}, called) {
				cycles++
			}
		}
		if cycles != 1<<12-543 {
			t.Errorf("%d graphs of four fields have cycles, by the order %d", cycles, i)
		}
	}
}

// TestLargeGraphs: graphs of five to fourteen fields.
func TestLargeGraphs(t *testing.T) {
	called := []string{"f", "c2", "m", "a", "z", "b", "y", "c", "c10", "aa", "x", "k", "d", "e"}
	state, cycles, count := uint64(1), 0, 0
	below := func(n int) int { // numbers without a plain pattern, the same ones in each run
		state = state*6364136223846793005 + 1442695040888963407
		return int(state >> 33 % uint64(n))
	}
	for size := 5; size <= api.MaxFields; size++ {
		for range 200 {
			g := make(graph, size)
			for range below(2 * size) {
				g[below(size)] |= 1 << below(size)
			}
			count++
			if testGraph(t, g, called[14-size:]) {
				cycles++
			}
		}
		before, behind := make(graph, size), make(graph, size) // as many dependencies as there can be
		for i := range size {
			before[i], behind[i] = 1<<i-1, 1<<size-2<<i
		}
		if testGraph(t, before, called[:size]) || testGraph(t, behind, called[:size]) {
			t.Errorf("there are cycles in %v or %v", before, behind)
		}
	}
	if cycles < count/4 || cycles > count*3/4 {
		t.Errorf("%d of %d graphs have cycles", cycles, count)
	}
}

// roomy is a copy of a formula, with unused capacity that has something in it.
func roomy(x api.Expr) api.Expr {
	l := slices.Repeat([]api.Expr{{Op: api.Ref, Name: "unused"}}, len(x.Args)+2)
	for i, arg := range x.Args {
		l[i] = roomy(arg)
	}
	x.Args = l[:len(x.Args)]
	return x
}

// roomyFields are a copy of fields, with unused capacity like that, too.
func roomyFields(l []api.Field) []api.Field {
	all := slices.Repeat([]api.Field{formula("unused", api.Int, "a + unused")}, len(l)+2)
	for i, f := range l {
		f.Source = roomy(f.Source)
		all[i] = f
	}
	return all[:len(l)]
}

// wholeFields are a copy of the fields, and of what is in their unused
// capacity.
func wholeFields(l []api.Field) []api.Field { return field.Copy(l[:cap(l)]) }

// spoil all of a list, and its unused capacity.
func spoil[T any](l []T, with T) {
	l = l[:cap(l)]
	for i := range l {
		l[i] = with
	}
}

// TestMemory: arguments stay as they are, results are new, and nothing is kept
// between calls.
func TestMemory(t *testing.T) {
	ring := append(fields()[1:], formula("b", api.Int, "b + x"), lookup("x", api.Int, "b"))
	for _, list := range [][]api.Field{fields(), turned(fields()), ring, chain(14), fields()[:2], fields()[:1], nil} {
		l := roomyFields(list)
		before := wholeFields(l)
		type results struct {
			ranks, order, hangs []int
			cycle               []string
			e                   [3]api.Errno
		}
		all := func() (r results) {
			r.ranks, r.cycle, r.e[0] = Of(l)
			r.order, r.e[1] = Order(l)
			r.hangs, r.e[2] = Hangs(l, "a")
			return r
		}
		first, again := all(), all()
		spoil(again.ranks, 77)
		spoil(again.order, 77)
		spoil(again.hangs, 77)
		spoil(again.cycle, "spoilt")
		if third := all(); !reflect.DeepEqual(first, third) {
			t.Errorf("for %s there was %v, and then %v", shown(list), first, third)
		}
		if !reflect.DeepEqual(wholeFields(l), before) {
			t.Errorf("the fields %s changed", shown(list))
		}
	}
}
