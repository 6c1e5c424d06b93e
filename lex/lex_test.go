package lex

import (
	"reflect"
	"regexp"
	"strings"
	"testing"

	"lychway/api"
	"lychway/value"
)

// many is a string several times over.
func many(s string, n int) string { return strings.Repeat(s, n) }

// numberAt, wordAt, quoteAt and signAt are tokens of each kind.
func numberAt(at int, s string, n int) api.Token {
	return api.Token{Kind: api.Number, At: at, S: s, V: api.Value{Kind: api.Int, N: n}}
}
func wordAt(at int, s string) api.Token { return api.Token{Kind: api.Word, At: at, S: s} }
func quoteAt(at int, s, text string) api.Token {
	return api.Token{Kind: api.Quote, At: at, S: s, V: api.Value{Kind: api.Text, S: text}}
}
func signAt(at int, s string) api.Token { return api.Token{Kind: api.Sign, At: at, S: s} }

// accept tests that a string has these tokens.
func accept(t *testing.T, s string, want ...api.Token) {
	t.Helper()
	list, at, e := Tokens(s)
	same := len(list) == len(want) && (len(want) == 0 || reflect.DeepEqual(list, want))
	if !same || at != 0 || e != api.OK {
		t.Errorf("Tokens(%q) = %v, %d, %d, want %v", s, list, at, e, want)
	}
}

// refuse tests that a string is wrong at an offset.
func refuse(t *testing.T, s string, at int, err api.Errno) {
	t.Helper()
	list, gotAt, e := Tokens(s)
	if len(list) != 0 || gotAt != at || e != err {
		t.Errorf("Tokens(%q) = %v, %d, %d, want %d, %d", s, list, gotAt, e, at, err)
	}
}

// TestTokens: tokens of all kinds, with and without spaces (P3.1).
func TestTokens(t *testing.T) {
	accept(t, "")
	accept(t, "a <=12", wordAt(0, "a"), signAt(2, "<="), numberAt(4, "12", 12))
	accept(t, `if(a1,"x y")`, wordAt(0, "if"), signAt(2, "("), wordAt(3, "a1"),
		signAt(5, ","), quoteAt(6, `"x y"`, "x y"), signAt(11, ")"))
	accept(t, "-a*30", signAt(0, "-"), wordAt(1, "a"), signAt(2, "*"), numberAt(3, "30", 30))
	accept(t, "not true", wordAt(0, "not"), wordAt(4, "true"))
	accept(t, `"a""b"`, quoteAt(0, `"a"`, "a"), quoteAt(3, `"b"`, "b"))
	accept(t, `a"b"1`, wordAt(0, "a"), quoteAt(1, `"b"`, "b"), numberAt(4, "1", 1))
}

// TestSpaces: spaces separate tokens, and nothing else does (P3.1).
func TestSpaces(t *testing.T) {
	accept(t, " ")
	accept(t, many(" ", api.MaxSource))
	accept(t, "  a   b ", wordAt(2, "a"), wordAt(6, "b"))
	accept(t, "1 2", numberAt(0, "1", 1), numberAt(2, "2", 2))
	accept(t, "0 0", numberAt(0, "0", 0), numberAt(2, "0", 0))
	accept(t, "< =", signAt(0, "<"), signAt(2, "="))
	accept(t, `" " `, quoteAt(0, `" "`, " "))
	for _, space := range []string{"\t", "\n", "\r", "\v", "\f", "\x00", "\u00a0"} {
		refuse(t, "a"+space+"b", 1, api.ErrForm)
	}
}

// TestNumbers: the digits of a Number, and its errors (P3.1).
func TestNumbers(t *testing.T) {
	accept(t, "0", numberAt(0, "0", 0))
	accept(t, "9876543210", numberAt(0, "9876543210", 9876543210))
	accept(t, "1099511627776", numberAt(0, "1099511627776", api.MaxNumber))
	accept(t, "100", numberAt(0, "100", 100))
	accept(t, "7a8", numberAt(0, "7", 7), wordAt(1, "a8"))
	accept(t, "0a", numberAt(0, "0", 0), wordAt(1, "a"))
	accept(t, "5+6", numberAt(0, "5", 5), signAt(1, "+"), numberAt(2, "6", 6))
	for _, s := range []string{"00", "01", "007", "0" + many("9", 99), "01099511627777"} {
		refuse(t, s, 0, api.ErrForm)
		refuse(t, "a "+s+" b", 2, api.ErrForm)
	}
	for _, s := range []string{
		"1099511627777", "9223372036854775807", "9223372036854775808",
		"18446744073709551616", "18446744073709551617", many("9", api.MaxSource),
	} {
		refuse(t, s, 0, api.ErrOver)
	}
	refuse(t, "a - 1099511627777", 4, api.ErrOver)
}

// TestWords: how far a Word goes, and how long it may be (P3.1).
func TestWords(t *testing.T) {
	accept(t, "a", wordAt(0, "a"))
	accept(t, "az09za", wordAt(0, "az09za"))
	accept(t, "abcdefghij", wordAt(0, "abcdefghij"))
	accept(t, "a123456789", wordAt(0, "a123456789"))
	accept(t, "a1,b", wordAt(0, "a1"), signAt(2, ","), wordAt(3, "b"))
	for _, s := range keywords() {
		accept(t, s, wordAt(0, s))
		accept(t, s+"1", wordAt(0, s+"1"))
	}
	for _, s := range []string{"abcdefghijk", "a1234567890", many("a", api.MaxSource)} {
		refuse(t, s, 0, api.ErrSize)
	}
	refuse(t, "1+abcdefghijk", 2, api.ErrSize)
	for _, s := range []string{"aB", "a_b", "aé", "a`", "a{", "a.b", "a:"} {
		refuse(t, s, 1, api.ErrForm)
	}
}

// TestQuotes: where a Quote ends, and what it stands for (P3.1).
func TestQuotes(t *testing.T) {
	for source, text := range map[string]string{
		`""`:                               "",
		`"a"`:                              "a",
		`"A b, <~!"`:                       "A b, <~!",
		`"\""`:                             `"`,
		`"\\"`:                             `\`,
		`"a\"b\\c"`:                        `a"b\c`,
		`"\\\""`:                           `\"`,
		`"\\\\"`:                           `\\`,
		`"` + many("x", 40) + `"`:          many("x", 40),
		`"` + many(`\"`, 40) + `"`:         many(`"`, 40),
		`"` + many(`\\`, 40) + `"`:         many(`\`, 40),
		`"` + many(`\\`, 39) + `x` + `"`:   many(`\`, 39) + "x",
		`"` + many(`x`, 39) + `\\` + `"`:   many(`x`, 39) + `\`,
		`"` + many(" ", api.MaxText) + `"`: many(" ", api.MaxText),
	} {
		accept(t, source, quoteAt(0, source, text))
		accept(t, "1 "+source+"a", numberAt(0, "1", 1), quoteAt(2, source, text), wordAt(2+len(source), "a"))
	}
	accept(t, `"\\" "a"`, quoteAt(0, `"\\"`, `\`), quoteAt(5, `"a"`, "a"))
}

// TestQuoteForm: quotes that are not of their form (P3.1).
func TestQuoteForm(t *testing.T) {
	for _, s := range []string{
		`"`, `"a`, `"\"`, `"\`, `"\\`, `"a\`, `"\\\"`, `"a b + 1`,
		`"\a"`, `"\ "`, `"\n"`, `"\'"`, `"\0"`, `"a\x" + "b"`, `"\\\a"`,
		"\"\n\"", "\"\t\"", "\"\x1f\"", "\"\x7f\"", "\"\x80\"", "\"\xff\"", `"é"`, "\"\\\n\"",
	} {
		refuse(t, s, 0, api.ErrForm)
		refuse(t, "a+ "+s, 3, api.ErrForm)
	}
	accept(t, "\" ~\"", quoteAt(0, "\" ~\"", " ~"))
	refuse(t, `"a"\`, 3, api.ErrForm)
	refuse(t, "\"a\"\n", 3, api.ErrForm) // it comes after the end
	refuse(t, `"a" "`, 4, api.ErrForm)
}

// TestQuoteSize: a Text may be too long, but its form comes first (P3.1).
func TestQuoteSize(t *testing.T) {
	for _, s := range []string{
		many("x", 41), many(`\"`, 41), many(`\\`, 41), many("x", 158), many("x", 40) + `\\`,
	} {
		refuse(t, `"`+s+`"`, 0, api.ErrSize)
	}
	refuse(t, `a "`+many("x", 41)+`"`, 2, api.ErrSize)
	for _, s := range []string{
		many("x", 41), many("x", 41) + `\`, many("x", 41) + `\"`, many("x", 41) + `\a"`,
		many("x", 41) + "\n\"", many("x", 41) + "é\"", `\a` + many("x", 41) + `"`,
	} {
		refuse(t, `"`+s, 0, api.ErrForm)
	}
	refuse(t, `"`+many("x", 41)+"\"\n", 0, api.ErrSize) // the byte comes after the end
}

// TestSigns: each sign alone, and next to each other one (P3.1).
func TestSigns(t *testing.T) {
	list := []string{"<=", "!=", "<", "=", "+", "-", "*", "/", "%", "&", "(", ")", ","}
	for _, x := range list {
		accept(t, x, signAt(0, x))
		for _, y := range list {
			accept(t, x+" "+y, signAt(0, x), signAt(len(x)+1, y))
			if x == "<" && y == "=" {
				accept(t, "<=", signAt(0, "<="))
				continue
			}
			accept(t, x+y, signAt(0, x), signAt(len(x), y))
		}
	}
	accept(t, "<==", signAt(0, "<="), signAt(2, "="))
	accept(t, "!==", signAt(0, "!="), signAt(2, "="))
	accept(t, "<!=", signAt(0, "<"), signAt(1, "!="))
	for _, s := range []string{"!", "! =", "!<", "!a"} {
		refuse(t, s, 0, api.ErrForm)
	}
	refuse(t, "a>b", 1, api.ErrForm)
	refuse(t, ">=", 0, api.ErrForm)
}

// TestBytes: which bytes a token begins with (P3.1).
func TestBytes(t *testing.T) {
	for b := range 256 {
		s := string([]byte{byte(b)})
		switch {
		case b == ' ':
			accept(t, s)
		case b >= '0' && b <= '9':
			accept(t, s, numberAt(0, s, b-'0'))
		case b >= 'a' && b <= 'z':
			accept(t, s, wordAt(0, s))
			accept(t, "z"+s, wordAt(0, "z"+s))
		case strings.Contains("<=+-*/%&(),", s):
			accept(t, s, signAt(0, s))
		default:
			refuse(t, s, 0, api.ErrForm)
			refuse(t, "a "+s, 2, api.ErrForm)
		}
	}
}

// TestQuoteBytes: which bytes a Quote may contain (P3.1).
func TestQuoteBytes(t *testing.T) {
	for b := range 256 {
		s := string([]byte{byte(b)})
		switch {
		case b == '"':
		case b == '\\', b < 32, b > 126:
			refuse(t, `"`+s+`"`, 0, api.ErrForm)
			refuse(t, `"a`+s+`b"`, 0, api.ErrForm)
		default:
			accept(t, `"`+s+`"`, quoteAt(0, `"`+s+`"`, s))
			refuse(t, `"\`+s+`"`, 0, api.ErrForm)
		}
	}
}

// TestSource: the length of the string comes before everything else (P3.1).
func TestSource(t *testing.T) {
	accept(t, many(" ", 159)+"a", wordAt(159, "a"))
	for _, s := range []string{
		many(" ", 161), many(" ", 160) + "a", "a" + many(" ", 160), many("#", 161),
		"007" + many(" ", 158), "\"" + many("x", 160), many("9", 161), many("a", 9999),
		many("é", 81),
	} {
		refuse(t, s, 0, api.ErrSize)
	}
	refuse(t, many("é", 80), 0, api.ErrForm) // 160 bytes
}

// TestFirst: of several invalid tokens, the first one is told (P3.1).
func TestFirst(t *testing.T) {
	refuse(t, "a abcdefghijk 007", 2, api.ErrSize)
	refuse(t, "a 007 abcdefghijk", 2, api.ErrForm)
	refuse(t, "1099511627777 #", 0, api.ErrOver)
	refuse(t, "# 1099511627777", 0, api.ErrForm)
	refuse(t, `"`+many("x", 41)+`" "`, 0, api.ErrSize)
	refuse(t, `"a 1099511627777`, 0, api.ErrForm)
	refuse(t, "007abcdefghijk", 0, api.ErrForm)
	refuse(t, "7abcdefghijk", 1, api.ErrSize)
}

// TestAll: all short strings of some bytes, against patterns (P3.1).
func TestAll(t *testing.T) {
	kinds := []*regexp.Regexp{
		api.Number: regexp.MustCompile(`^(0|[1-9][0-9]*)($|[^0-9])`),
		api.Word:   regexp.MustCompile(`^([a-z][a-z0-9]*)`),
		api.Quote:  regexp.MustCompile(`^("([ -!#-\[\]-~]|\\"|\\\\)*")`),
		api.Sign:   regexp.MustCompile(`^(<=|!=|[<=+*/%&(),-])`),
	}
	var all func(s string, more int)
	all = func(s string, more int) {
		testPatterns(t, s, kinds)
		for _, b := range "\"\\a01<=!) \n" {
			if more > 0 {
				all(s+string(b), more-1)
			}
		}
	}
	all("", 5)
}

// testPatterns tests the tokens of a string against the pattern of each kind.
func testPatterns(t *testing.T, s string, kinds []*regexp.Regexp) {
	list, at, e := Tokens(s)
	next := 0
	for rest := strings.TrimLeft(s, " "); rest != ""; rest = strings.TrimLeft(rest, " ") {
		offset := len(s) - len(rest)
		kind, source := match(rest, kinds)
		if kind == 0 {
			if len(list) != 0 || at != offset || e != api.ErrForm {
				t.Errorf("Tokens(%q) = %v, %d, %d, want ErrForm at %d", s, list, at, e, offset)
			}
			return
		}
		if next < len(list) && !isToken(list[next], kind, offset, source) {
			t.Errorf("Tokens(%q) = %v, token %d", s, list, next)
		}
		next++
		rest = rest[len(source):]
	}
	if len(list) != next || at != 0 || e != api.OK {
		t.Errorf("Tokens(%q) = %v, %d, %d, want %d tokens", s, list, at, e, next)
	}
}

// match is the kind and the source of the first token, or 0 if there is none.
func match(s string, kinds []*regexp.Regexp) (int, string) {
	for kind, pattern := range kinds {
		if pattern != nil {
			if m := pattern.FindStringSubmatch(s); m != nil {
				return kind, m[1]
			}
		}
	}
	return 0, ""
}

// isToken: is a token of this kind, at this offset, and with this source? Its
// value is shown as the source.
func isToken(t api.Token, kind, at int, source string) bool {
	if t.Kind != kind || t.At != at || t.S != source {
		return false
	}
	if kind == api.Word || kind == api.Sign {
		return t.V == api.Value{}
	}
	shown, e := value.Show(t.V)
	return e == api.OK && shown == source
}

// TestMemory: no result depends on what is done to another one (P3.1).
func TestMemory(t *testing.T) {
	want := []api.Token{wordAt(0, "a"), signAt(1, "+"), numberAt(2, "1", 1)}
	list, _, _ := Tokens("a+1")
	clear(list[:cap(list)])
	accept(t, "a+1", want...)
}

// keywords are all words that are no names.
func keywords() []string {
	return []string{"and", "or", "not", "true", "false", "if", "len"}
}

// TestName: valid and invalid names (P3.2).
func TestName(t *testing.T) {
	for _, c := range []struct {
		want  api.Errno
		names []string
	}{
		{api.OK, []string{"a", "z", "a0", "z9", "day", "abcdefghij", "a123456789", "aaz09",
			"andy", "ands", "or1", "nott", "tru", "iff", "i", "lens", "le", "mod", "int", "page"}},
		{api.ErrSize, []string{"", "abcdefghijk", "a1234567890", many("a", 9999),
			many("#", 11), "12345678901", many("é", 6)}},
		{api.ErrForm, []string{"1", "1a", "0", "A", "aB", "Ab", "a_b", "_", "a b", " a", "a ", " ",
			"a\n", "a-", "a+b", "é", "aé", "\x00", "a\xff", `"a"`, "(a)", "a.b", "a`", "a{", "a/", "a:",
			"AND", many("#", 10), "1234567890", many("é", 5)}},
		{api.ErrForm, keywords()},
	} {
		for _, s := range c.names {
			if e := Name(s); e != c.want {
				t.Errorf("Name(%q) = %d, want %d", s, e, c.want)
			}
		}
	}
}

// TestNameBytes: which bytes a name begins and goes on with (P3.2).
func TestNameBytes(t *testing.T) {
	for b := range 256 {
		s := string([]byte{byte(b)})
		letter, digit := b >= 'a' && b <= 'z', b >= '0' && b <= '9'
		if e := Name(s); (e == api.OK) != letter || !letter && e != api.ErrForm {
			t.Errorf("Name(%q) = %d", s, e)
		}
		for _, s := range []string{"x" + s, "x" + s + "y"} {
			if e := Name(s); (e == api.OK) != (letter || digit) || !letter && !digit && e != api.ErrForm {
				t.Errorf("Name(%q) = %d", s, e)
			}
		}
	}
}

// TestKey: the keywords, and strings that are none (P3.2).
func TestKey(t *testing.T) {
	for _, s := range keywords() {
		if !Key(s) {
			t.Errorf("Key(%q) = false", s)
		}
		for _, other := range []string{s + " ", " " + s, s + "s", s[1:], s[:len(s)-1], strings.ToUpper(s), s + s} {
			if Key(other) {
				t.Errorf("Key(%q) = true", other)
			}
		}
	}
	for _, s := range []string{"", "a", "xor", "else", "mod", "int", "bool", "text", "page", "min", "1", "\x00"} {
		if Key(s) {
			t.Errorf("Key(%q) = true", s)
		}
	}
}
