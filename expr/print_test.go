package expr

import (
	"reflect"
	"strings"
	"testing"

	"lychway/api"
)

// notated are formulas and their notations. Each of them is read as it is
// printed.
func notated() map[string]api.Expr {
	a, b, c := ref("a"), ref("b"), ref("c")
	return map[string]api.Expr{
		"a":                 a,
		"a123456789":        ref("a123456789"),
		"0":                 number(0),
		"1099511627776":     number(api.MaxNumber),
		"false":             truth(0),
		"true":              truth(1),
		`""`:                text(""),
		`"true"`:            text("true"),
		`"a, (b) - c"`:      text("a, (b) - c"),
		`"a\"b\\"`:          text(`a"b\`),
		"-a":                node(api.Neg, a),
		"not a":             node(api.Not, a),
		"a * b":             node(api.Mul, a, b),
		"a / b":             node(api.Div, a, b),
		"a % b":             node(api.Mod, a, b),
		"a + b":             node(api.Add, a, b),
		"a - b":             node(api.Sub, a, b),
		"a & b":             node(api.Join, a, b),
		"a < b":             node(api.Less, a, b),
		"a <= b":            node(api.AtMost, a, b),
		"a = b":             node(api.Same, a, b),
		"a != b":            node(api.Other, a, b),
		"a and b":           node(api.And, a, b),
		"a or b":            node(api.Or, a, b),
		"if(a, b, c)":       node(api.If, a, b, c),
		"len(a)":            node(api.Len, a),
		"-5":                node(api.Neg, number(5)),
		"--5":               node(api.Neg, node(api.Neg, number(5))),
		"not not a":         node(api.Not, node(api.Not, a)),
		"-not a":            node(api.Neg, node(api.Not, a)),
		"not -a":            node(api.Not, node(api.Neg, a)),
		"-(a * b)":          node(api.Neg, node(api.Mul, a, b)),
		"-a * b":            node(api.Mul, node(api.Neg, a), b),
		"a * -b":            node(api.Mul, a, node(api.Neg, b)),
		"a - -b":            node(api.Sub, a, node(api.Neg, b)),
		"not (a = b)":       node(api.Not, node(api.Same, a, b)),
		"not a = b":         node(api.Same, node(api.Not, a), b),
		"a = not b":         node(api.Same, a, node(api.Not, b)),
		"-if(a, b, c)":      node(api.Neg, node(api.If, a, b, c)),
		"not len(a)":        node(api.Not, node(api.Len, a)),
		"a - b - c":         node(api.Sub, node(api.Sub, a, b), c),
		"a - (b - c)":       node(api.Sub, a, node(api.Sub, b, c)),
		"a + b & c":         node(api.Join, node(api.Add, a, b), c),
		"a + (b & c)":       node(api.Add, a, node(api.Join, b, c)),
		"a / b % c":         node(api.Mod, node(api.Div, a, b), c),
		"a * (b * c)":       node(api.Mul, a, node(api.Mul, b, c)),
		"a + b * c":         node(api.Add, a, node(api.Mul, b, c)),
		"(a + b) * c":       node(api.Mul, node(api.Add, a, b), c),
		"a * (b + c)":       node(api.Mul, a, node(api.Add, b, c)),
		"a * b + c":         node(api.Add, node(api.Mul, a, b), c),
		"(a < b) < c":       node(api.Less, node(api.Less, a, b), c),
		"a < (b < c)":       node(api.Less, a, node(api.Less, b, c)),
		"(a = b) <= c":      node(api.AtMost, node(api.Same, a, b), c),
		"(a <= b) != c":     node(api.Other, node(api.AtMost, a, b), c),
		"(a != b) = c":      node(api.Same, node(api.Other, a, b), c),
		"a + b < c + a":     node(api.Less, node(api.Add, a, b), node(api.Add, c, a)),
		"a < b and b = c":   node(api.And, node(api.Less, a, b), node(api.Same, b, c)),
		"(a and b) = c":     node(api.Same, node(api.And, a, b), c),
		"a and b and c":     node(api.And, node(api.And, a, b), c),
		"a and (b and c)":   node(api.And, a, node(api.And, b, c)),
		"a or b or c":       node(api.Or, node(api.Or, a, b), c),
		"a or (b or c)":     node(api.Or, a, node(api.Or, b, c)),
		"a and b or c":      node(api.Or, node(api.And, a, b), c),
		"a or b and c":      node(api.Or, a, node(api.And, b, c)),
		"(a or b) and c":    node(api.And, node(api.Or, a, b), c),
		"a and (b or c)":    node(api.And, a, node(api.Or, b, c)),
		"len(a & b)":        node(api.Len, node(api.Join, a, b)),
		"if(a or b, -c, a)": node(api.If, node(api.Or, a, b), node(api.Neg, c), a),
		"if(a, if(b, c, a), len(b)) or c": node(api.Or,
			node(api.If, a, node(api.If, b, c, a), node(api.Len, b)), c),
	}
}

// TestPrint: the notations of formulas (P4.3).
func TestPrint(t *testing.T) {
	for want, x := range notated() {
		if s, e := Print(x); s != want || e != api.OK {
			t.Errorf("Print(%v) = %q, %d, want %q", x, s, e, want)
		}
	}
}

// TestPrintLong: a notation may be longer than what Parse accepts (P4.3).
func TestPrintLong(t *testing.T) {
	x, want := text(many(`"`, 40)), `"`+many(`\"`, 40)+`"`
	for range 10 {
		x, want = node(api.Join, x, text(many(`\`, 40))), want+` & "`+many(`\\`, 40)+`"`
	}
	if s, e := Print(x); s != want || e != api.OK {
		t.Errorf("Print(%v) = %q, %d, want %q", x, s, e, want)
	}
	if x, at, e := Parse(want); !reflect.DeepEqual(x, api.Expr{}) || at != 0 || e != api.ErrSize {
		t.Errorf("Parse(%q) = %v, %d, %d", want, x, at, e)
	}
}

// trees are all formulas of a depth of at most this, with the operands given
// as those of depth 1.
func trees(depth int, leaves []api.Expr) []api.Expr {
	if depth == 1 {
		return leaves
	}
	list := append([]api.Expr{}, leaves...)
	below := trees(depth-1, leaves)
	for _, x := range below {
		for _, op := range []int{api.Neg, api.Not, api.Len} {
			list = append(list, node(op, x))
		}
		for _, y := range below {
			for _, op := range binaries {
				list = append(list, node(op, x, y))
			}
			for _, z := range below {
				list = append(list, node(api.If, x, y, z))
			}
		}
	}
	return list
}

// TestPrintAll: a notation stands for its formula, and without any one pair
// of its parentheses it doesn't (P4.3, P4.4).
func TestPrintAll(t *testing.T) {
	for _, x := range trees(3, []api.Expr{ref("a")}) {
		s, e := Print(x)
		if y, at, f := Parse(s); e != api.OK || at != 0 || f != api.OK || !reflect.DeepEqual(x, y) {
			t.Fatalf("Print(%v) = %q, %d, which is read as %v, %d, %d", x, s, e, y, at, f)
		}
		for i := range s {
			if s[i] != '(' || strings.HasSuffix(s[:i], "if") || strings.HasSuffix(s[:i], "len") {
				continue
			}
			end := i + closing(s[i:])
			less := s[:i] + s[i+1:end] + s[end+1:]
			if y, _, _ := Parse(less); reflect.DeepEqual(x, y) {
				t.Fatalf("Print(%v) = %q, but %q is enough", x, s, less)
			}
		}
	}
}

// closing is the offset of the parenthesis that closes the first one.
func closing(s string) int {
	open := 0
	for i := range s {
		switch s[i] {
		case '(':
			open++
		case ')':
			open--
		}
		if open == 0 {
			return i
		}
	}
	return len(s)
}
