package expr

import (
	"reflect"
	"strings"
	"testing"

	"lychway/api"
	"lychway/lex"
)

// accept tests which formula a string stands for.
func accept(t *testing.T, s string, want api.Expr) {
	t.Helper()
	x, at, e := Parse(s)
	if !reflect.DeepEqual(x, want) || at != 0 || e != api.OK {
		t.Errorf("Parse(%q) = %v, %d, %d, want %v", s, x, at, e, want)
	}
}

// refuse tests that a string is wrong at an offset.
func refuse(t *testing.T, s string, at int, err api.Errno) {
	t.Helper()
	x, gotAt, e := Parse(s)
	if !reflect.DeepEqual(x, api.Expr{}) || gotAt != at || e != err {
		t.Errorf("Parse(%q) = %v, %d, %d, want %d, %d", s, x, gotAt, e, at, err)
	}
}

// TestParse: the formulas of notations (P4.4).
func TestParse(t *testing.T) {
	for s, want := range notated() {
		accept(t, s, want)
		accept(t, "("+s+")", want)
		accept(t, " ( ( "+s+" ))", want)
		accept(t, "not("+s+")", node(api.Not, want))
		accept(t, "-("+s+")", node(api.Neg, want))
		accept(t, "("+s+")*("+s+")", node(api.Mul, want, want))
		accept(t, "if("+s+",("+s+"),"+s+")", node(api.If, want, want, want))
	}
}

// TestParseSpaces: spaces may be anywhere between tokens, or be missing (P4.4).
func TestParseSpaces(t *testing.T) {
	a, b, c := ref("a"), ref("b"), ref("c")
	accept(t, "a+b", node(api.Add, a, b))
	accept(t, "  a  +  b  ", node(api.Add, a, b))
	accept(t, "a<=-b", node(api.AtMost, a, node(api.Neg, b)))
	accept(t, "- a", node(api.Neg, a))
	accept(t, "not(a)and(b)or(c)", node(api.Or, node(api.And, node(api.Not, a), b), c))
	accept(t, "1and 2", node(api.And, number(1), number(2)))
	accept(t, `"x"and"y"`, node(api.And, text("x"), text("y")))
	accept(t, "if (a ,b , c)", node(api.If, a, b, c))
	accept(t, "len ( a )", node(api.Len, a))
	accept(t, "nota", ref("nota"))
	accept(t, "ifa", ref("ifa"))
	refuse(t, "a < = b", 4, api.ErrForm)
	refuse(t, "aand b", 5, api.ErrForm)
}

// TestParseChains: operators of one precedence next to each other (P4.4).
func TestParseChains(t *testing.T) {
	a, b, c, d := ref("a"), ref("b"), ref("c"), ref("d")
	accept(t, "a-b+c&d", node(api.Join, node(api.Add, node(api.Sub, a, b), c), d))
	accept(t, "a/b%c*d", node(api.Mul, node(api.Mod, node(api.Div, a, b), c), d))
	accept(t, "a and b and c and d", node(api.And, node(api.And, node(api.And, a, b), c), d))
	accept(t, "a or b or c or d", node(api.Or, node(api.Or, node(api.Or, a, b), c), d))
	accept(t, "a-(b+(c&d))", node(api.Sub, a, node(api.Add, b, node(api.Join, c, d))))
	signs := []string{"<", "<=", "=", "!="}
	for _, x := range signs {
		for _, y := range signs {
			refuse(t, "a "+x+" b "+y+" c", 5+len(x), api.ErrForm)
			refuse(t, "d and a "+x+" b "+y+" c", 11+len(x), api.ErrForm)
			refuse(t, "d or(a "+x+" b+1 "+y+" c)", 12+len(x), api.ErrForm)
			refuse(t, "a "+x+" b "+y, 5+len(x), api.ErrForm)
		}
	}
	accept(t, "(a<b)=(c<d)", node(api.Same, node(api.Less, a, b), node(api.Less, c, d)))
	accept(t, "a<b and c<d or a=d", node(api.Or,
		node(api.And, node(api.Less, a, b), node(api.Less, c, d)), node(api.Same, a, d)))
	accept(t, "if(a<b,b<c,c<d)<a", node(api.Less,
		node(api.If, node(api.Less, a, b), node(api.Less, b, c), node(api.Less, c, d)), a))
}

// TestParseErrors: where a syntax error is (P4.4).
func TestParseErrors(t *testing.T) {
	for s, at := range map[string]int{
		// It ends too early.
		"": 0, "   ": 3, "a+": 2, "a+  ": 4, "not": 3, "-": 1, "(": 1, "(a": 2, "(a+b": 4, "((a)": 4,
		"if": 2, "if(": 3, "if(a": 4, "if(a,": 5, "if(a,b": 6, "if(a,b,": 7, "if(a,b,c ": 9,
		"len": 3, "len(": 4, "len(a": 5, "a and": 5, `"a" &`: 5,
		// A token is where none can be.
		"1 2": 2, "a b": 2, "a 1": 2, `a "b"`: 2, `"a""b"`: 3, "true false": 5, "a true": 2,
		"a not b": 2, "a if(a,b,c)": 2, "a len(b)": 2, "a(b)": 1, "(a)(b)": 3, "(a)b": 3,
		"*a": 0, "+a": 0, "a + * b": 4, "a - + b": 4, "a < = b": 4, "< a": 0, "a = = b": 4,
		"and": 0, "or a": 0, "a and and b": 6, "a or and b": 5, "not and": 4, "not or a": 4,
		"a and or b": 6, ",": 0, ")": 0, "a)": 1, "a,b": 1, "(a,b)": 2, "()": 1, "(a))": 3,
		"a+)": 2, "(a+)": 3, "-)": 1, "not )": 4,
		"if a": 3, "if)": 2, "if,": 2, "if()": 3, "if(,a,b)": 3, "if(a)": 4, "if(a,b)": 6,
		"if(a,b,c,d)": 8, "if(a,,b)": 5, "if(a,b,)": 7, "if(a b)": 5, "if+1": 2, "if 1": 3,
		"len a": 4, "len()": 4, "len(a,b)": 5, "len(a b)": 6, "len)": 3, "len(,)": 4, "len=1": 3,
		"a + if": 6, "a + len + b": 8, "(if)": 3, "(a and)": 6,
		// The first one counts.
		") )": 0, "a b )": 2, "a b (": 2, "(a b": 3, "(a b)": 3, "a < b < c < d": 6, "a b + + c": 2,
	} {
		refuse(t, s, at, api.ErrForm)
	}
}

// TestParseTokens: errors of tokens come before all others (P4.4).
func TestParseTokens(t *testing.T) {
	for _, s := range []string{
		"#", "a #", "a b #", ") 007", "a 1099511627777", "a b abcdefghijk", `+ "a`, `a "\n"`,
		"a > b", "a ! b", "A", "1.5", "a\n", `"` + many("a", 41) + `"`, "a b\t",
		many(" ", 161), many("(", 161), "a b" + many(" ", 158), many("-", 159) + "#",
	} {
		_, at, e := lex.Tokens(s)
		if e == api.OK {
			t.Fatalf("Tokens(%q) = OK", s)
		}
		refuse(t, s, at, e)
	}
	refuse(t, ") 1099511627777", 2, api.ErrOver)
	refuse(t, "a b abcdefghijk", 4, api.ErrSize)
	refuse(t, "a b #", 4, api.ErrForm)
	refuse(t, many("a", 161), 0, api.ErrSize)
}

// TestParseCheck: formulas that are too large or too deep (P4.4).
func TestParseCheck(t *testing.T) {
	accept(t, many("-", 11)+"a", tall(12))
	refuse(t, many("-", 12)+"a", 0, api.ErrRange)
	refuse(t, many("-", 59)+"a", 0, api.ErrRange)
	refuse(t, many("-", 60)+"a", 0, api.ErrSize)
	refuse(t, many("-", 159)+"a", 0, api.ErrSize)
	accept(t, many("(", 79)+"a"+many(")", 79), ref("a"))
	accept(t, many("(", 79)+" a"+many(")", 79), ref("a"))
	_, _, e := Parse("a" + many("+a", 11))
	if e != api.OK {
		t.Errorf("Parse of 12 terms = %d", e)
	}
	refuse(t, "a"+many("+a", 12), 0, api.ErrRange)
	refuse(t, "a"+many("+a", 29), 0, api.ErrRange) // 59 nodes
	refuse(t, "-a"+many("+a", 29), 0, api.ErrRange)
	refuse(t, "--a"+many("+a", 29), 0, api.ErrSize)
	refuse(t, "a"+many("+a", 79), 0, api.ErrSize)
	refuse(t, many("(", 80)+many(" ", 80), 160, api.ErrForm)

	// A syntax error comes first, even behind all that is too large.
	refuse(t, many("-", 12)+"a)", 13, api.ErrForm)
	refuse(t, many("-", 160), 160, api.ErrForm)
	refuse(t, "a"+many("+a", 40)+" b", 82, api.ErrForm)
	refuse(t, "a"+many("+a", 40)+"+", 82, api.ErrForm)

	four := "(((a+a)+(a+a))+((a+a)+(a+a)))" // 15 nodes
	accept(t, four, full(4))
	rest := four + "+" + four + "+" + four + "+" + many("-", 10) + "a" // 59 nodes
	for minus, want := range []api.Errno{api.OK, api.OK, api.ErrSize} {
		s := many("-", minus) + rest
		x, at, e := Parse(s)
		if size, depth := Size(x); at != 0 || e != want || e == api.OK && (size != 59+minus || depth != 12) {
			t.Errorf("Parse(%q) = %v, %d, %d", s, x, at, e)
		}
	}
}

// TestParseMemory: two formulas that are read share nothing.
func TestParseMemory(t *testing.T) {
	s := "if(a < b, -a, a + b)"
	x, _, _ := Parse(s)
	y, _, _ := Parse(s)
	x.Args[0].Args[1] = ref("z")
	x.Args[2] = ref("z")
	_ = append(x.Args, ref("z"))
	accept(t, s, y)
	if x, _, _ = Parse("a+a"); &x.Args[0] == &x.Args[1] {
		t.Error("the operands are one")
	}
}

// state of a machine that reads tokens one by one, written without regard to
// how Parse does it: it tells whether a formula can go on with a token.
type state struct {
	behind   bool  // an operand is complete
	call     int   // after if or len: how many operands it has
	compared bool  // a comparison can't be followed by another one
	commas   []int // for each open parenthesis: how many commas it waits for
	outside  []bool
}

// step reads a token; can a formula go on with it?
func (s *state) step(token string) bool {
	switch {
	case s.call > 0:
		return token == "(" && s.open(s.call-1)
	case !s.behind:
		return s.begin(token)
	case token == "+" || token == "-" || token == "*":
		s.behind = false
	case token == "<" || token == "=":
		if s.compared {
			return false
		}
		s.behind, s.compared = false, true
	case token == "and" || token == "or":
		s.behind, s.compared = false, false
	case token == ",":
		if len(s.commas) == 0 || s.commas[len(s.commas)-1] == 0 {
			return false
		}
		s.commas[len(s.commas)-1]--
		s.behind, s.compared = false, false
	case token == ")":
		return s.close()
	default:
		return false
	}
	return true
}

// begin reads a token that an operand begins with.
func (s *state) begin(token string) bool {
	switch token {
	case "x":
		s.behind = true
	case "-", "not":
	case "if":
		s.call = 3
	case "len":
		s.call = 1
	case "(":
		return s.open(0)
	default:
		return false
	}
	return true
}

// open a parenthesis that waits for some commas.
func (s *state) open(commas int) bool {
	s.commas, s.outside = append(s.commas, commas), append(s.outside, s.compared)
	s.call, s.compared, s.behind = 0, false, false
	return true
}

// close the last parenthesis.
func (s *state) close() bool {
	last := len(s.commas) - 1
	if last < 0 || s.commas[last] > 0 {
		return false
	}
	s.compared = s.outside[last]
	s.commas, s.outside = s.commas[:last], s.outside[:last]
	return true
}

// run reads all tokens. It returns the index of the first one that a formula
// can't go on with, or how many there are; and whether they are a formula.
func run(tokens []string) (int, bool) {
	s := state{}
	for i, token := range tokens {
		if !s.step(token) {
			return i, false
		}
	}
	return len(tokens), s.behind && len(s.commas) == 0
}

// grouped is a formula with parentheses around each operator, found by
// dividing its tokens at the last operator of the lowest precedence.
func grouped(tokens []string) string {
	for _, level := range [][]string{{"or"}, {"and"}, {"<", "="}, {"+", "-"}, {"*"}} {
		if i := last(tokens, level); i > 0 {
			return "(" + grouped(tokens[:i]) + tokens[i] + grouped(tokens[i+1:]) + ")"
		}
	}
	switch tokens[0] {
	case "-", "not":
		return "(" + tokens[0] + grouped(tokens[1:]) + ")"
	case "(":
		return grouped(tokens[1 : len(tokens)-1])
	case "if", "len":
		s, from := "", 2
		for i := 2; i < len(tokens); i++ {
			if n := last(tokens[from:i+1], []string{",", ")"}); n > 0 && from+n == i {
				s += "," + grouped(tokens[from:i])
				from = i + 1
			}
		}
		return tokens[0] + "(" + s[1:] + ")"
	}
	return tokens[0]
}

// last is the index of the last of these tokens that stands behind an operand
// and in no parentheses, or 0.
func last(tokens, these []string) int {
	found, open, behind := 0, 0, false
	for i, token := range tokens {
		for _, x := range these {
			if token == x && behind && open == 0 {
				found = i
			}
		}
		switch token {
		case "(":
			open++
		case ")":
			open--
		}
		behind = token == ")" || token != "(" && !strings.Contains(" or and not < = + - * , if len ", " "+token+" ")
	}
	return found
}

// regrouped is a formula with parentheses around each operator.
func regrouped(x api.Expr) string {
	sign := map[int]string{
		api.Neg: "-", api.Not: "not", api.Or: "or", api.And: "and", api.Less: "<",
		api.Same: "=", api.Add: "+", api.Sub: "-", api.Mul: "*", api.If: "if", api.Len: "len",
	}[x.Op]
	var args []string
	for _, arg := range x.Args {
		args = append(args, regrouped(arg))
	}
	switch x.Op {
	case api.Ref:
		return x.Name
	case api.Neg, api.Not:
		return "(" + sign + args[0] + ")"
	case api.If, api.Len:
		return sign + "(" + strings.Join(args, ",") + ")"
	}
	return "(" + args[0] + sign + args[1] + ")"
}

// TestParseAll: all short sequences of some tokens: those that are formulas
// are read as such, and all others are refused at the right place (P4.4).
func TestParseAll(t *testing.T) {
	alphabet := strings.Fields("x or and not < = + - * ( ) , if len")
	formulas := 0
	var all func(tokens []string, more int)
	all = func(tokens []string, more int) {
		named := renamed(tokens)
		s := strings.Join(named, " ")
		n, complete := run(tokens)
		if complete {
			formulas++
			x, at, e := Parse(s)
			if at != 0 || e != api.OK || regrouped(x) != grouped(named) {
				t.Fatalf("Parse(%q) = %v, %d, %d, want %q", s, x, at, e, grouped(named))
			}
		} else {
			refuse(t, s, offset(named, n), api.ErrForm)
		}
		for _, token := range alphabet {
			// Once a token is wrong, a single one behind it is enough.
			if more > 0 && n >= len(tokens)-1 {
				all(append(append([]string{}, tokens...), token), more-1)
			}
		}
	}
	all(nil, 6)
	if formulas < 500 {
		t.Errorf("only %d formulas were tested", formulas)
	}
}

// TestParseCalls: all short sequences within an if, and behind it (P4.4).
func TestParseCalls(t *testing.T) {
	alphabet := strings.Fields("x and = - ( ) , len")
	var all func(tokens []string, more int)
	all = func(tokens []string, more int) {
		named := renamed(tokens)
		s := strings.Join(named, " ")
		if n, complete := run(tokens); !complete {
			refuse(t, s, offset(named, n), api.ErrForm)
			if n < len(tokens) {
				return
			}
		} else if x, at, e := Parse(s); at != 0 || e != api.OK || regrouped(x) != grouped(named) {
			t.Fatalf("Parse(%q) = %v, %d, %d, want %q", s, x, at, e, grouped(named))
		}
		for _, token := range alphabet {
			if more > 0 {
				all(append(append([]string{}, tokens...), token), more-1)
			}
		}
	}
	all(strings.Fields("if ("), 7)
	all(strings.Fields("if ( x = x ,"), 6)
	all(strings.Fields("x = if ( x , x ,"), 6)
}

// renamed are tokens with a name of its own for each x.
func renamed(tokens []string) []string {
	list, next := []string{}, 'a'
	for _, token := range tokens {
		if token == "x" {
			token = string(next)
			next++
		}
		list = append(list, token)
	}
	return list
}

// offset of the token with an index, or the length if there is none.
func offset(tokens []string, i int) int {
	if i < len(tokens) {
		return len(strings.Join(append(append([]string{}, tokens[:i]...), ""), " "))
	}
	return len(strings.Join(tokens, " "))
}
