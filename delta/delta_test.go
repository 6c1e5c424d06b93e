package delta

import (
	"fmt"
	"math"
	"reflect"
	"slices"
	"strconv"
	"strings"
	"testing"

	"lychway/api"
	"lychway/eval"
	"lychway/expr"
	"lychway/names"
	"lychway/sheet"
	"lychway/typing"
	"lychway/value"
	"lychway/whole"
)

// ref, number and node are formulas.
func ref(name string) api.Expr            { return api.Expr{Op: api.Ref, Name: name} }
func number(n int) api.Expr               { return api.Expr{Op: api.Const, V: integer(n)} }
func node(op int, l ...api.Expr) api.Expr { return api.Expr{Op: op, Args: l} }

// integer, boolean, text and fault are values, and pending is one.
func integer(n int) api.Value { return api.Value{Kind: api.Int, N: n} }
func boolean(n int) api.Value { return api.Value{Kind: api.Bool, N: n} }
func text(s string) api.Value { return api.Value{Kind: api.Text, S: s} }
func fault(n int) api.Value   { return api.Value{Kind: api.Fault, N: n} }

var pending = api.Value{Kind: api.Pending}

// must is the value of a notation, and all are those of several ones: "1 true".
func must(s string) api.Value {
	v, e := value.Parse(s)
	if e != api.OK {
		panic("there is no value " + s)
	}
	return v
}
func all(s string) []api.Value {
	var l []api.Value
	for _, word := range strings.Fields(s) {
		l = append(l, must(word))
	}
	return l
}

// facts and answers of lines: "a 4", `c 5 "x"`; a Text has no space in it.
func facts(lines ...string) []api.Fact {
	var l []api.Fact
	for _, line := range lines {
		words := strings.Fields(line)
		l = append(l, api.Fact{Name: words[0], Has: must(words[1])})
	}
	return l
}
func answers(lines ...string) []api.Fact {
	var l []api.Fact
	for _, line := range lines {
		words := strings.Fields(line)
		l = append(l, api.Fact{Name: words[0], Key: must(words[1]), Has: must(words[2])})
	}
	return l
}

// read is the formula of a notation, which must be valid; there is none in an
// empty string.
func read(s string) api.Expr {
	if s == "" {
		return api.Expr{}
	}
	x, at, e := expr.Parse(s)
	if e != api.OK {
		panic("Parse of " + s + ": error " + strconv.Itoa(int(e)) + " at " + strconv.Itoa(at))
	}
	return x
}

// kinds of fields and types, by their words.
var kinds = map[string]int{"input": api.Input, "formula": api.Formula, "lookup": api.Lookup}
var types = map[string]int{"int": api.Int, "bool": api.Bool, "text": api.Text}

// fieldOf a line: "input a int", "formula b bool = a < 3", "lookup c text = b".
// Only the formula must be valid.
func fieldOf(line string) api.Field {
	head, source, _ := strings.Cut(line, " = ")
	words := strings.Fields(head)
	return api.Field{Name: words[1], Kind: kinds[words[0]], Type: types[words[2]], Source: read(source)}
}

// form of fields, with one page.
func form(lines ...string) api.Form {
	f := api.Form{Pages: []api.Page{{Name: "p"}}}
	for _, line := range lines {
		f.Fields = append(f.Fields, fieldOf(line))
	}
	return f
}

// shownValue, shown, shownFacts and shownFields are values, facts and fields as
// text.
func shownValue(v api.Value) string {
	s, e := value.Show(v)
	if e != api.OK {
		return fmt.Sprintf("{%d %d %q}", v.Kind, v.N, v.S)
	}
	return s
}
func shown(l []api.Value) string {
	var list []string
	for _, v := range l[:min(len(l), 20)] {
		list = append(list, shownValue(v))
	}
	return strings.Join(list, " ")
}
func shownFacts(l []api.Fact) string {
	list := []string{fmt.Sprint(len(l), " facts")}
	for _, f := range l[:min(len(l), 20)] {
		list = append(list, fmt.Sprintf("%q by %s: %s", f.Name, shownValue(f.Key), shownValue(f.Has)))
	}
	return "[" + strings.Join(list, " | ") + "]"
}
func shownFields(l []api.Field) string {
	list := []string{fmt.Sprint(len(l), " fields")}
	for _, f := range l[:min(len(l), 20)] {
		s, e := expr.Print(f.Source)
		if e != api.OK {
			s = fmt.Sprintf("Op %d, %q, %d Args", f.Source.Op, f.Source.Name, len(f.Source.Args))
		}
		list = append(list, fmt.Sprintf("%q %d %d = %s", f.Name, f.Kind, f.Type, s))
	}
	return "[" + strings.Join(list, " | ") + "]"
}

// values of all kinds; those behind the first 19 are not valid.
func values() []api.Value {
	return []api.Value{
		integer(0), integer(3), integer(-3), integer(api.MaxNumber), integer(-api.MaxNumber), boolean(0), boolean(1),
		text(""), text("a"), text("1"), text(strings.Repeat("~", 40)), text(` "\`), pending,
		fault(1), fault(2), fault(5), fault(8), fault(14), fault(15),
		{}, {Kind: -1}, {Kind: 6}, {Kind: math.MaxInt}, {N: 1}, {S: "a"}, fault(0), fault(16), fault(-1), {Kind: 5, N: 3, S: "x"}, {Kind: 4, N: 1},
		{Kind: 4, S: "?"}, integer(api.MaxNumber + 1), integer(math.MinInt), {Kind: 1, S: "1"}, boolean(2), boolean(-1), {Kind: 2, N: 1, S: "true"},
		{Kind: 3, N: 1}, text("\n"), text("\x7f"), text("é"), text(strings.Repeat("~", 41)),
	}
}

// testRun tests all values and the names of the recomputed fields.
func testRun(t *testing.T, f api.Form, inputs, oracle []api.Fact, old []api.Value, name, want, recomputed string) {
	t.Helper()
	l, list, e := Run(f, inputs, oracle, old, name)
	if e != api.OK || shown(l) != want || strings.Join(list, " ") != recomputed {
		t.Errorf("Run(%s, %s, %s, %s, %q) = %s, %q, %d, want %s, %q", shownFields(f.Fields), shownFacts(inputs), shownFacts(oracle), shown(old), name, shown(l), list, e, want, recomputed)
	}
}

// refuse tests that something is wrong.
func refuse(t *testing.T, f api.Form, inputs, oracle []api.Fact, old []api.Value, name string, want api.Errno) {
	t.Helper()
	l, list, e := Run(f, inputs, oracle, old, name)
	if e != want || len(l) != 0 || len(list) != 0 {
		t.Errorf("Run(%s, %s, %s, %s, %q) = %s, %q, %d, want error %d", shownFields(f.Fields), shownFacts(inputs), shownFacts(oracle), shown(old), name, shown(l), list, e, want)
	}
}

// TestExample: a field that keeps its value stops the recomputation (P15.1).
func TestExample(t *testing.T) {
	f := form("input a int", "formula b bool = a < 10", "formula c int = if(b, 1, 2)")
	testRun(t, f, facts("a 4"), nil, all("3 true 1"), "a", "4 true 1", "a b")
	testRun(t, f, facts("a 10"), nil, all("3 true 1"), "a", "10 false 2", "a b c")
	testRun(t, f, facts("a 3"), nil, all("3 true 1"), "a", "3 true 1", "a")
	testRun(t, f, nil, nil, all("10 false 2"), "a", "0 true 1", "a b c")
	testRun(t, f, facts("a 10"), nil, all("3 true 1"), "b", "3 true 1", "b")
	testRun(t, f, facts("a 10"), nil, all("3 true 1"), "c", "3 true 1", "c")
}

// TestRun: which fields are recomputed, by which values, and in which order
// (P15.1).
func TestRun(t *testing.T) {
	chain := []string{"formula d int = c + 1", "formula c int = b + 1", "formula b int = a + 1", "input a int"}
	diamond := []string{"formula d int = b + c", "input a int", "formula c int = a * 2", "formula b int = a * a"}
	lookups := []string{"input a int", "lookup b int = a", "formula c int = b + a", "lookup d text = c"}
	for _, c := range []struct {
		fields                    []string
		inputs, oracle, old, name string
		want, recomputed          string
	}{
		{chain, "a 5", "", "3 2 1 0", "a", "8 7 6 5", "a b c d"},
		{chain, "a 5", "", "3 2 1 0", "b", "3 2 1 0", "b"},
		{chain, "a 5", "", "3 2 1 5", "b", "8 7 6 5", "b c d"},
		{chain, "a 5", "", "3 2 1 5", "c", "3 2 1 5", "c"},
		{chain, "a 5", "", "3 2 1 5", "a", "3 2 1 5", "a"},
		{chain, "a 5", "", "9 7 9 9", "a", "9 7 6 5", "a b c"}, // c is what it was, so that d is not asked for
		{chain, "", "", "3 2 9 0", "d", "3 2 9 0", "d"},
		{chain, "", "", "3 2 9 0", "c", "11 10 9 0", "c d"},
		{chain, "a 1", "", "3 ? 2 0", "a", "3 ? 2 1", "a b"},
		{chain, "", "", `3 ? 2 "x"`, "c", "4 3 2 \"x\"", "c d"},
		{chain, "", "", `3 2 1 "x"`, "b", "!9 !9 !9 \"x\"", "b c d"},
		{chain, "", "", "3 2 1 ?", "b", "? ? ? ?", "b c d"},
		{chain, "", "", "3 !5 !5 !5", "c", "3 !5 !5 !5", "c"},
		{chain, "", "", "true 2 1 0", "d", "3 2 1 0", "d"},
		{chain, "", "", "true false 7 !3", "a", "3 2 1 0", "a b c d"},
		{diamond, "a 3", "", "0 0 0 0", "a", "15 3 6 9", "a c b d"},
		{diamond, "a 2", "", "8 -2 -4 4", "a", "8 2 4 4", "a c b d"}, // d depends on c, which is another one
		{diamond, "a 2", "", "7 -2 4 4", "a", "7 2 4 4", "a c b"},
		{diamond, "a 2", "", "7 2 5 5", "c", "9 2 4 5", "c d"},
		{diamond, "a 2", "", "7 2 5 5", "b", "9 2 5 4", "b d"},
		{lookups, "a 4", "b 4 7|d 11 \"x\"", "0 ? ? ?", "a", `4 7 11 "x"`, "a b c d"},
		{lookups, "a 4", "b 5 7|d 11 \"x\"", "0 ? ? ?", "a", "4 ? ? ?", "a b c"},
		{lookups, "a 4", "b 4 7|d 11 \"x\"", "4 ? ? ?", "b", `4 7 11 "x"`, "b c d"},
		{lookups, "a 4", "b 4 7|d 11 \"x\"", "4 7 11 ?", "b", `4 7 11 ?`, "b"}, // the answer for d is not asked for
		{lookups, "a 4", "b 4 7|d 11 \"x\"", "4 7 11 ?", "d", `4 7 11 "x"`, "d"},
		{lookups, "a 4", "b 4 !14", "4 ? ? ?", "b", "4 !14 !14 !14", "b c d"},
		{lookups, "a 4", "b 4 !14", "5 !14 !14 !14", "a", "4 !14 !14 !14", "a b c"},
		{lookups, "a 4", "", `4 7 11 "x"`, "b", "4 ? ? ?", "b c d"},
		{lookups, "a 4", "b 4 7", `4 7 11 "x"`, "d", "4 7 11 ?", "d"},
		{lookups, "", "b 4 7", `4 7 11 "x"`, "a", "0 ? ? ?", "a b c d"},
		{lookups, "", "b 4 7", `4 7 11 "x"`, "c", `4 7 11 "x"`, "c"},
		{lookups, "", "b 4 7", `? 3 11 "x"`, "b", "? ? ? ?", "b c d"},
		{[]string{"formula b int = if(a, c, d)", "input c int", "input d int", "input a bool"}, "c 5", "", "0 0 0 false", "c", "0 5 0 false", "c b"},
		{[]string{"formula b bool = a and c", "formula d bool = b", "input c bool", "input a bool"}, "a true|c true", "", "true true false false", "c", "false false true false", "c b d"},
		{[]string{"formula b bool = a = a", "formula c bool = b", "input a text"}, `a "x"`, "", `true false ""`, "a", `true false "x"`, "a b"},
		{[]string{"input a int", "input b int", "formula c int = a + b"}, "a 4|b 5", "", "0 0 0", "b", "0 5 5", "b c"}, // a is not asked for
		{[]string{"input a int", "input aa int", "formula c int = aa"}, "a 4|aa 5", "", "0 0 0", "a", "4 0 0", "a"},
		{[]string{"formula c int = 1 + 1", "lookup d int = 5"}, "", "d 5 8", "7 7", "c", "2 7", "c"},
		{[]string{"formula c int = 1 + 1", "lookup d int = 5"}, "", "d 5 8", "7 7", "d", "7 8", "d"},
	} {
		testRun(t, form(c.fields...), parts(c.inputs, facts), parts(c.oracle, answers), all(c.old), c.name, c.want, c.recomputed)
	}
}

// parts of a text, which "|" separates, as facts.
func parts(s string, read func(...string) []api.Fact) []api.Fact {
	if s == "" {
		return nil
	}
	return read(strings.Split(s, "|")...)
}

// TestOrder: the recomputed fields are sorted by rank, and by place within one
// rank (P15.1).
func TestOrder(t *testing.T) {
	f := form(
		"formula z int = y + a", "lookup d int = a", "formula x int = 0 - a", "formula y int = d + x", "input a int", "formula c int = a * a",
		"input b int", "formula w int = b + z", "formula e int = b", "formula v int = c + 1",
	)
	oracle := answers("d 2 5", "d 3 5", "d 4 6")
	old := all("7 5 -2 3 2 4 1 8 1 5")
	if l, e := whole.All(f, facts("a 2", "b 1"), oracle); e != api.OK || shown(l) != "5 5 -2 3 2 4 1 6 1 5" {
		t.Fatalf("All = %s, %d", shown(l), e)
	}
	testRun(t, f, facts("a 4", "b 1"), oracle, old, "a", "6 6 -4 2 4 16 1 7 1 17", "a d x c y v z w")
	testRun(t, f, facts("a 3", "b 1"), oracle, old, "a", "5 5 -3 2 3 9 1 6 1 10", "a d x c y v z w")
	testRun(t, f, facts("a -2", "b 1"), answers("d -2 1"), old, "a", "1 1 2 3 -2 4 1 2 1 5", "a d x c y z w") // c is what it was, and v depends on nothing else
	testRun(t, f, facts("a 2", "b 9"), oracle, old, "b", "7 5 -2 3 2 4 9 16 9 5", "b e w")
	testRun(t, f, facts("a 2", "b 1"), answers("d 2 6"), old, "d", "6 6 -2 4 2 4 1 7 1 5", "d y z w")
	testRun(t, f, facts("a 4", "b 1"), oracle, old, "z", "5 5 -2 3 2 4 1 6 1 5", "z w")
}

// TestErrors: what is wrong with the form, the inputs and the oracle comes
// first, then an unknown name, then the size of old, then its values (P15.1).
func TestErrors(t *testing.T) {
	type arguments struct {
		form           []string
		inputs, oracle []api.Fact
	}
	good := []string{"input a int", "formula b int = a + 1", "lookup c text = b"}
	checked := map[api.Errno][]arguments{
		api.OK:       {{good, nil, nil}, {good, facts("a 4"), answers(`c 5 "ok"`)}},
		api.ErrSize:  {{slices.Repeat(good, 5), nil, nil}},
		api.ErrKind:  {{[]string{"input a other", good[1], good[2]}, nil, nil}, {good, facts("b 4"), nil}, {good, nil, answers("a 4 4")}},
		api.ErrForm:  {{[]string{"input a int", good[1], good[2], "input if int"}, nil, nil}, {good, answers("a 4 4"), nil}},
		api.ErrNone:  {{good[1:], nil, nil}, {good, facts("z 4"), nil}, {good, nil, answers("z 5 5")}},
		api.ErrTwice: {{[]string{good[0], good[0], good[1]}, nil, nil}, {good, facts("a 4", "a 4"), nil}, {good, nil, answers(`c 5 "ok"`, "c 5 !3")}},
		api.ErrType:  {{[]string{good[0], "formula b bool = a", good[2]}, nil, nil}, {good, facts("a true"), nil}, {good, nil, answers("c 5 5")}, {good, nil, answers("c 5 ?")}},
		api.ErrCycle: {{[]string{"formula a int = b", good[1], good[2]}, nil, nil}, {[]string{good[0], good[1], "lookup c text = c"}, nil, nil}},
	}
	olds := map[api.Errno][][]api.Value{
		api.OK:       {all(`4 5 "ok"`), all("? !14 7"), all("true true true"), all("4 5 ? ?")[:3]},
		api.ErrSize:  {nil, {}, all("4 5"), all(`4 5 "ok" 4`), {{}}, {{}, {}, {}, {}}, make([]api.Value, 1<<18)},
		api.ErrKind:  {{{}, {}, {}}, {integer(4), {Kind: 6}, integer(api.MaxNumber + 1)}, {pending, integer(4), {Kind: -1}}},
		api.ErrForm:  {{integer(4), {Kind: 1, S: "x"}, {}}, {integer(4), integer(5), {Kind: 4, S: "?"}}, {text("\n"), {}, {}}},
		api.ErrRange: {{integer(4), fault(16), text("\n")}, {boolean(2), {}, {}}, {integer(4), integer(5), {Kind: 4, N: 1}}},
		api.ErrOver:  {{integer(4), integer(5), integer(1 << 41)}, {integer(-1 << 41), {}, {}}},
	}
	for wrong, list := range checked {
		for _, c := range list {
			for wrongOld, lists := range olds {
				for _, old := range lists {
					for name, wrongName := range map[string]api.Errno{"a": 0, "b": 0, "c": 0, "z": api.ErrNone, "": api.ErrNone, "A": api.ErrNone, "aa": api.ErrNone, "p": api.ErrNone} {
						if e := firstOf(wrong, wrongName, wrongOld); e != api.OK {
							refuse(t, form(c.form...), c.inputs, c.oracle, old, name, e)
						} else {
							testModel(t, form(c.form...), c.inputs, c.oracle, old, name)
						}
					}
				}
			}
		}
	}
	testNoPage(t)
}

// firstOf some errors that is one.
func firstOf(l ...api.Errno) api.Errno {
	for _, e := range l {
		if e != api.OK {
			return e
		}
	}
	return api.OK
}

// testNoPage tests forms whose pages are not valid, and forms without fields.
func testNoPage(t *testing.T) {
	f := form("input a int")
	f.Pages[0].Fields = []string{"z"}
	refuse(t, f, nil, nil, all("1"), "a", api.ErrNone)
	refuse(t, f, nil, nil, nil, "z", api.ErrNone)
	f.Pages = nil
	refuse(t, f, nil, nil, all("1"), "a", api.ErrSize)
	refuse(t, f, nil, nil, all("1"), "z", api.ErrSize)
	refuse(t, api.Form{}, nil, nil, nil, "", api.ErrSize)
	refuse(t, form(), nil, nil, nil, "", api.ErrNone)
	refuse(t, form(), nil, nil, all("1"), "a", api.ErrNone)
}

// TestOld: each value, valid or not, at each place of old (P15.1).
func TestOld(t *testing.T) {
	f := form("input a int", "formula b int = a + 1", "lookup c text = b")
	inputs, oracle := facts("a 4"), answers(`c 5 "ok"`)
	for i, v := range values() {
		wrong := value.Check(v)
		if (wrong == api.OK) != (i < 19) {
			t.Errorf("value %d: error %d", i, wrong)
		}
		for place := range 3 {
			old := all(`4 5 "ok"`)
			old[place] = v
			for _, name := range []string{"a", "b", "c"} {
				if wrong != api.OK {
					refuse(t, f, inputs, oracle, old, name, wrong)
				} else {
					testModel(t, f, inputs, oracle, old, name)
				}
			}
			for _, other := range values()[19:] { // the first one that is wrong counts
				for second := place + 1; second < 3; second++ {
					old[second] = other
					refuse(t, f, inputs, oracle, old, "b", firstOf(wrong, value.Check(other)))
				}
			}
		}
	}
}

// model is what Run returns: again and again, by the values so far, it is found
// which fields are recomputed, and all values are computed anew, until those of
// the greatest rank are settled.
func model(f api.Form, inputs, oracle []api.Fact, old []api.Value, name string) ([]api.Value, []string) {
	current := slices.Clone(old)
	recomputed := make([]bool, len(old))
	for range f.Fields {
		last := slices.Clone(current)
		for i, one := range f.Fields {
			again := one.Name == name
			for j, other := range f.Fields {
				again = again || recomputed[j] && last[j] != old[j] && names.Has(one.Source, other.Name)
			}
			recomputed[i], current[i] = again, old[i]
			if again {
				current[i] = expected(one, inputs, oracle, f.Fields, last)
			}
		}
	}
	var list []string
	for high := range f.Fields {
		for i, one := range f.Fields {
			if recomputed[i] && height(f.Fields, one) == high {
				list = append(list, one.Name)
			}
		}
	}
	return current, list
}

// height of a field over those on which it depends.
func height(l []api.Field, one api.Field) int {
	high := 0
	for _, other := range l {
		if names.Has(one.Source, other.Name) {
			high = max(high, 1+height(l, other))
		}
	}
	return high
}

// expected value of a field by those of all fields.
func expected(one api.Field, inputs, oracle []api.Fact, l []api.Field, known []api.Value) api.Value {
	if one.Kind == api.Input {
		i := slices.IndexFunc(inputs, func(f api.Fact) bool { return f.Name == one.Name })
		if i < 0 {
			return api.Value{Kind: one.Type}
		}
		return inputs[i].Has
	}
	var told []api.Fact
	for i, other := range l {
		told = append(told, api.Fact{Name: other.Name, Has: known[i]})
	}
	v, e := eval.Of(one.Source, told)
	if e != api.OK {
		panic("there is no value of a Source")
	}
	if one.Kind == api.Formula || v.Kind == api.Pending || v.Kind == api.Fault {
		return v
	}
	i := slices.IndexFunc(oracle, func(f api.Fact) bool { return f.Name == one.Name && f.Key == v })
	if i < 0 {
		return pending
	}
	return oracle[i].Has
}

// testModel tests against the model; all fields that differ are recomputed.
func testModel(t *testing.T, f api.Form, inputs, oracle []api.Fact, old []api.Value, name string) {
	t.Helper()
	l, recomputed := model(f, inputs, oracle, old, name)
	testRun(t, f, inputs, oracle, old, name, shown(l), strings.Join(recomputed, " "))
	differ, e := Differ(f.Fields, old, l)
	if e != api.OK || slices.ContainsFunc(differ, func(s string) bool { return !slices.Contains(recomputed, s) }) {
		t.Errorf("Differ(%s, %s, %s) = %q, %d, but %q are recomputed", shownFields(f.Fields), shown(old), shown(l), differ, e, recomputed)
	}
}

// samples of fields.
func samples() []string {
	return []string{
		"input a int", "input b bool", "input c int", "formula a int = b", "formula b bool = not c", "formula c bool = a < 3", "formula b int = c * 2 + c",
		"lookup b int = a", "lookup a bool = c", "lookup c int = if(b, a, 2)", "lookup a int = b", "formula c int = 7 / a", "lookup c bool = 1 = a",
		"formula d bool = b and c or a", "lookup d int = c", "formula d int = if(true, a, b)",
	}
}

// told of the Inputs of some fields, all of which are the same number, and the
// answers of the Lookups.
func told(l []api.Field, n int) []api.Fact {
	var inputs []api.Fact
	for _, one := range l {
		if one.Kind == api.Input {
			inputs = append(inputs, api.Fact{Name: one.Name, Has: api.Value{Kind: one.Type, N: n}})
		}
	}
	return inputs
}
func answered(l []api.Field) []api.Fact {
	var oracle []api.Fact
	for _, one := range l {
		kind, e := typing.Of(one.Source, l)
		if one.Kind != api.Lookup || e != api.OK {
			continue
		}
		for n := range 2 {
			oracle = append(oracle, api.Fact{Name: one.Name, Key: api.Value{Kind: kind, N: n}, Has: api.Value{Kind: one.Type, N: 1 - n}})
		}
		if kind == api.Int {
			oracle = append(oracle, api.Fact{Name: one.Name, Key: integer(2), Has: fault(14)})
		}
	}
	return oracle
}

// testSamples tests what is recomputed in a form of samples: if one field is
// another one, all values are those that follow, and else those of the model.
// It adds to the counts of how many fields are recomputed.
func testSamples(t *testing.T, f api.Form, counts map[int]int) {
	t.Helper()
	oracle := answered(f.Fields)
	before, _ := whole.All(f, told(f.Fields, 0), oracle)
	less, _ := whole.All(f, told(f.Fields, 0), oracle[min(1, len(oracle)):])
	odd := all("1 true ? !14")[:len(before)]
	for i, one := range f.Fields {
		inputs := told(f.Fields, 0)
		for j := range inputs {
			if inputs[j].Name == one.Name {
				inputs[j].Has.N = 1
			}
		}
		testFollows(t, f, inputs, oracle, before, one.Name)
		if len(oracle) > 0 && oracle[0].Name == one.Name {
			testFollows(t, f, told(f.Fields, 0), oracle, less, one.Name)
			testFollows(t, f, told(f.Fields, 0), oracle[1:], before, one.Name)
		}
		for _, old := range [][]api.Value{before, less, odd, slices.Concat(odd[i:], odd[:i])} {
			for _, l := range [][]api.Fact{inputs, told(f.Fields, 1), nil} {
				testModel(t, f, l, oracle, old, one.Name)
				testModel(t, f, l, nil, old, one.Name)
				_, list, _ := Run(f, l, oracle, old, one.Name)
				counts[len(list)]++
			}
		}
	}
}

// testFollows tests that the values after a change are the same as if all of
// them were computed.
func testFollows(t *testing.T, f api.Form, inputs, oracle []api.Fact, old []api.Value, name string) {
	t.Helper()
	l, e := whole.All(f, inputs, oracle)
	got, _, err := Run(f, inputs, oracle, old, name)
	if e != api.OK || err != api.OK || !slices.Equal(l, got) {
		t.Errorf("Run(%s, %s, %s, %s, %q) = %s, %d, but All = %s, %d", shownFields(f.Fields), shownFacts(inputs), shownFacts(oracle), shown(old), name, shown(got), err, shown(l), e)
	}
}

// TestMany: all forms of up to four fields of samples (P15.1).
func TestMany(t *testing.T) {
	lists := [][]string{nil}
	counts := map[int]int{}
	for i := 0; i < len(lists); i++ {
		f := form(lists[i]...)
		if e := sheet.Check(f); e == api.OK {
			testSamples(t, f, counts)
		} else {
			refuse(t, f, facts("z 1"), answers("z 1 1"), []api.Value{{}}, "z", e)
			refuse(t, f, nil, nil, all("1 1 1 1")[:len(f.Fields)], "a", e)
		}
		for _, line := range samples() {
			if len(lists[i]) < 4 {
				lists = append(lists, append(slices.Clip(lists[i]), line))
			}
		}
	}
	for n := 1; n <= 4; n++ {
		if counts[n] < 100 {
			t.Errorf("the changes are too much alike: %v", counts)
		}
	}
}

// TestLimits: as many fields as there can be, and a long oracle (P15.1).
func TestLimits(t *testing.T) {
	var lines, order []string
	for i := range api.MaxFields - 1 {
		lines = append(lines, fmt.Sprintf("%s a%d int = a%d + 1", []string{"formula", "lookup"}[i%2], i, i+1))
		order = append(order, "a"+strconv.Itoa(13-i))
	}
	f := form(append(lines, "input a13 int")...)
	order = append(order, "a0")
	var oracle []api.Fact
	for n := range 1 << 14 {
		for i := 1; i < 13; i += 2 {
			oracle = append(oracle, api.Fact{Name: "a" + strconv.Itoa(i), Key: integer(n), Has: integer(n / 2)})
		}
	}
	old, _ := whole.All(f, facts("a13 7000"), oracle)
	after, _ := whole.All(f, facts("a13 7999"), oracle)
	testRun(t, f, facts("a13 7999"), oracle, old, "a13", shown(after), strings.Join(order, " "))
	testRun(t, f, facts("a13 7000"), oracle, old, "a13", shown(old), "a13")
	testRun(t, f, facts("a13 7001"), oracle, old, "a13", strings.TrimSuffix(shown(old), "7001 7000")+"7002 7001", "a13 a12 a11")
	refuse(t, f, facts("a13 1"), append(oracle, oracle[0]), old, "a13", api.ErrTwice)
	refuse(t, f, facts("a13 1"), oracle, append(old, old[0]), "a13", api.ErrSize)
	refuse(t, f, facts("a13 1"), oracle, old, "a14", api.ErrNone)
	f.Fields = append(f.Fields, fieldOf("input b int"))
	refuse(t, f, facts("a13 1"), oracle, append(old, old[0]), "a13", api.ErrSize)
	f.Fields = slices.Repeat(f.Fields, 1<<14)
	refuse(t, f, facts("a13 1"), oracle, slices.Repeat(old, 1<<14), "z", api.ErrSize)
}

// testDiffer tests the names of the fields that differ.
func testDiffer(t *testing.T, l []api.Field, a, b []api.Value, want ...string) {
	t.Helper()
	for _, lists := range [][2][]api.Value{{a, b}, {b, a}} {
		got, e := Differ(l, lists[0], lists[1])
		if e != api.OK || !slices.Equal(got, want) {
			t.Errorf("Differ(%s, %s, %s) = %q, %d, want %q", shownFields(l), shown(lists[0]), shown(lists[1]), got[:min(len(got), 20)], e, want[:min(len(want), 20)])
		}
	}
}

// TestDiffer: the names of the fields whose values are not the same, in the
// order of the fields (P15.2).
func TestDiffer(t *testing.T) {
	l := form("formula c int = a", "input a int", "lookup b text = c").Fields
	testDiffer(t, l, all(`1 2 "x"`), all(`1 2 "x"`))
	testDiffer(t, l, all(`1 2 "x"`), all(`1 3 "x"`), "a")
	testDiffer(t, l, all(`1 2 "x"`), all(`2 2 "y"`), "c", "b")
	testDiffer(t, l, all(`1 2 "x"`), all(`2 1 ?`), "c", "a", "b")
	testDiffer(t, l, all(`1 ? ""`), all(`true ? ""`), "c")
	testDiffer(t, l, all(`1 ? ""`), all(`"1" ? false`), "c", "b")
	testDiffer(t, l, all(`0 !5 !6`), all(`false !5 !7`), "c", "b")
	testDiffer(t, nil, nil, nil)
	testDiffer(t, nil, []api.Value{}, all("1 2")[:0])
	testDiffer(t, l[:2], all("1 2 3")[:2], all("1 2 4")[:2])
	for _, sizes := range [][2]int{{0, 0}, {0, 3}, {3, 0}, {2, 2}, {2, 3}, {3, 2}, {3, 4}, {4, 3}, {4, 4}, {6, 0}, {1 << 18, 3}} {
		testWrong(t, l, make([]api.Value, sizes[0]), slices.Repeat(all("1"), sizes[1]))
	}
	testWrong(t, nil, nil, all("1"))
	testWrong(t, []api.Field{}, all("1"), nil)
	testWrong(t, nil, all("1"), all("1"))
}

// testWrong tests that there is not one value for each field.
func testWrong(t *testing.T, l []api.Field, a, b []api.Value) {
	t.Helper()
	if got, e := Differ(l, a, b); len(got) != 0 || e != api.ErrSize {
		t.Errorf("Differ(%s, %d values, %d values) = %q, %d, want error 1", shownFields(l), len(a), len(b), got, e)
	}
}

// TestDifferAny: fields and values need not be valid (P15.2).
func TestDifferAny(t *testing.T) {
	for i, v := range values() {
		for j, other := range values() {
			for _, name := range []string{"a", "", "A b", "\xff", "if", strings.Repeat("a", 99)} {
				l := []api.Field{{Name: "z"}, {Name: name, Kind: 99, Type: -1, Source: node(99, ref("?"))}, {Name: name}}
				var want []string
				if i != j {
					want = []string{name}
				}
				testDiffer(t, l, []api.Value{v, v, v}, []api.Value{v, other, v}, want...)
				testDiffer(t, l, []api.Value{v, v, v}, []api.Value{v, other, other}, append(want, want...)...)
			}
		}
	}
	l := slices.Repeat([]api.Field{{Name: "a"}, {Name: "b"}}, 1<<17)
	a, b := slices.Repeat([]api.Value{{N: 1}, {S: "x"}}, 1<<17), slices.Repeat([]api.Value{{N: 1}, {S: "y"}}, 1<<17)
	testDiffer(t, l, a, b, slices.Repeat([]string{"b"}, 1<<17)...)
	testDiffer(t, l, a, a)
	testWrong(t, l, a, b[1:])
}

// roomyList is a copy of a list, with unused capacity that has something in it.
func roomyList[T any](l []T, unused T) []T {
	all := slices.Repeat([]T{unused}, len(l)+2)
	copy(all, l)
	return all[:len(l)]
}

// roomy is a copy of a formula, with unused capacity like that.
func roomy(x api.Expr) api.Expr {
	x.Args = roomyList(x.Args, ref("unused"))
	for i, arg := range x.Args {
		x.Args[i] = roomy(arg)
	}
	return x
}

// roomyForm is a copy of a form, with unused capacity like that.
func roomyForm(f api.Form) api.Form {
	f.Fields, f.Pages = roomyList(f.Fields, fieldOf("lookup unused int = a + b")), roomyList(f.Pages, api.Page{Name: "unused", Skip: ref("unused")})
	for i := range f.Fields {
		f.Fields[i].Source = roomy(f.Fields[i].Source)
	}
	for i, p := range f.Pages {
		f.Pages[i].Fields = roomyList(p.Fields, "unused")
	}
	return f
}

// allOf a list, with what is in its unused capacity.
func allOf[T any](l []T) []T { return slices.Clone(l[:cap(l)]) }

// allOfFormula is a formula with what is in its unused capacity.
func allOfFormula(x api.Expr) api.Expr {
	x.Args = allOf(x.Args)
	for i, arg := range x.Args {
		x.Args[i] = allOfFormula(arg)
	}
	return x
}

// allOfForm is a form with what is in its unused capacity.
func allOfForm(f api.Form) api.Form {
	f.Fields, f.Pages = allOf(f.Fields), allOf(f.Pages)
	for i := range f.Fields {
		f.Fields[i].Source = allOfFormula(f.Fields[i].Source)
	}
	for i, p := range f.Pages {
		f.Pages[i].Fields = allOf(p.Fields)
	}
	return f
}

// TestArguments: arguments stay as they are, by each call.
func TestArguments(t *testing.T) {
	f, wrong := roomyForm(form("formula b int = a + 1", "input a int", "lookup c text = b")), roomyForm(form("input a int", "input a int", "lookup c text = a"))
	inputs, oracle := roomyList(facts("a 4"), facts("z 9")[0]), roomyList(answers(`c 5 "ok"`, "c 1 !14"), answers("c 9 9")[0])
	old, other := roomyList(all("1 0 !14"), integer(9)), roomyList(all("1 2 3"), integer(9))
	before, beforeWrong := allOfForm(f), allOfForm(wrong)
	beforeInputs, beforeOracle, beforeOld, beforeOther := allOf(inputs), allOf(oracle), allOf(old), allOf(other)
	for i, call := range []func(){
		func() { Run(f, inputs, oracle, old, "a") }, func() { Run(f, inputs, oracle, old, "b") }, func() { Run(f, inputs, oracle, old, "c") },
		func() { Run(f, inputs[:0], oracle[:0], other, "a") }, func() { Run(f, inputs, oracle, old, "z") }, func() { Run(wrong, inputs, oracle, old, "a") },
		func() { Run(f, inputs, oracle, old[:2], "a") }, func() { Run(f, inputs[:3], oracle, old, "a") }, func() { Run(f, inputs, oracle[:3], old, "a") },
		func() { Differ(f.Fields, old, other) }, func() { Differ(wrong.Fields, other, old) }, func() { Differ(f.Fields, old, old[:2]) },
	} {
		call()
		if !reflect.DeepEqual(allOfForm(f), before) || !reflect.DeepEqual(allOfForm(wrong), beforeWrong) {
			t.Fatalf("call %d changed the forms %s, %s", i, shownFields(f.Fields), shownFields(wrong.Fields))
		}
		if !slices.Equal(allOf(inputs), beforeInputs) || !slices.Equal(allOf(oracle), beforeOracle) {
			t.Fatalf("call %d changed the facts %s, %s", i, shownFacts(inputs), shownFacts(oracle))
		}
		if !slices.Equal(allOf(old), beforeOld) || !slices.Equal(allOf(other), beforeOther) {
			t.Fatalf("call %d changed the values %s, %s", i, shown(old), shown(other))
		}
	}
}

// TestResults: nothing is kept between calls, and the lists are new memory.
func TestResults(t *testing.T) {
	f, inputs, oracle, old := form("formula b int = a + 1", "input a int", "lookup c text = b"), facts("a 4"), answers(`c 5 "ok"`), roomyList(all("1 0 !14"), integer(9))
	var lists [][]api.Value
	var namesOf [][]string
	for range 3 {
		testRun(t, f, inputs, oracle, old, "a", `5 4 "ok"`, "a b c")
		testRun(t, f, inputs, oracle, old, "c", "1 0 ?", "c")
		refuse(t, f, inputs, oracle, old, "z", api.ErrNone)
		testDiffer(t, f.Fields, old, all(`5 0 "ok"`), "b", "c")
		l, recomputed, _ := Run(f, inputs, oracle, old, "a")
		same, again, _ := Run(f, inputs, oracle, all(`5 4 "ok"`), "a")
		differ, _ := Differ(f.Fields, old, l)
		lists, namesOf = append(lists, l, same), append(namesOf, recomputed, again, differ)
	}
	for i, l := range lists {
		if shown(l) != `5 4 "ok"` {
			t.Errorf("values %d are now %s", i, shown(l))
		}
		l = l[:cap(l)]
		for j := range l { // this changes no other result
			l[j] = integer(99)
		}
	}
	for i, l := range namesOf {
		if strings.Join(l, " ") != []string{"a b c", "a", "b a c"}[i%3] {
			t.Errorf("names %d are now %q", i, l)
		}
		l = l[:cap(l)]
		for j := range l {
			l[j] = "changed"
		}
	}
	if shown(old[:cap(old)]) != "1 0 !14 9 9" {
		t.Errorf("old is now %s", shown(old[:cap(old)]))
	}
}
