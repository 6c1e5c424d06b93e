package value

import (
	"math"
	"regexp"
	"strconv"
	"strings"
	"testing"

	"lychway/api"
)

// unknownKinds are numbers that no kind of values has.
func unknownKinds() []int {
	return []int{math.MinInt, -1, 0, 6, 7, math.MaxInt}
}

// strange is a value that is wrong in each way, but for its kind.
func strange(kind int) api.Value {
	return api.Value{Kind: kind, N: math.MaxInt, S: strings.Repeat("\n", 99)}
}

// number, truth, text and fault are values of each kind.
func number(n int) api.Value      { return api.Value{Kind: api.Int, N: n} }
func truth(n int) api.Value       { return api.Value{Kind: api.Bool, N: n} }
func text(s string) api.Value     { return api.Value{Kind: api.Text, S: s} }
func fault(n int) api.Value       { return api.Value{Kind: api.Fault, N: n} }
func pending() api.Value          { return api.Value{Kind: api.Pending} }
func anything(k int) api.Value    { return api.Value{Kind: k} }
func many(s string, n int) string { return strings.Repeat(s, n) }

// TestCheckKind: an unknown kind is told before anything else (P2.1).
func TestCheckKind(t *testing.T) {
	for _, kind := range unknownKinds() {
		for _, v := range []api.Value{anything(kind), strange(kind)} {
			if e := Check(v); e != api.ErrKind {
				t.Errorf("Check(%v) = %d, want ErrKind", v, e)
			}
		}
	}
}

// TestCheckNumber: the range of N for each kind (P2.1).
func TestCheckNumber(t *testing.T) {
	for _, c := range []struct {
		kind, least, most int
		outside           api.Errno
	}{
		{api.Int, -api.MaxNumber, api.MaxNumber, api.ErrOver},
		{api.Bool, 0, 1, api.ErrRange},
		{api.Text, 0, 0, api.ErrRange},
		{api.Pending, 0, 0, api.ErrRange},
		{api.Fault, 1, 15, api.ErrRange},
	} {
		for _, n := range []int{c.least, c.most, (c.least + c.most) / 2} {
			if e := Check(api.Value{Kind: c.kind, N: n}); e != api.OK {
				t.Errorf("Check of kind %d, N %d = %d, want OK", c.kind, n, e)
			}
		}
		for _, n := range []int{math.MinInt, c.least - 1, c.most + 1, math.MaxInt} {
			v := api.Value{Kind: c.kind, N: n}
			if e := Check(v); e != c.outside {
				t.Errorf("Check of kind %d, N %d = %d, want %d", c.kind, n, e, c.outside)
			}
			v.S = many("\n", 99) // what is wrong with N is told first
			if e := Check(v); e != c.outside {
				t.Errorf("Check of kind %d, N %d, long S = %d, want %d", c.kind, n, e, c.outside)
			}
		}
	}
}

// TestCheckText: the length of a Text, then its bytes (P2.1).
func TestCheckText(t *testing.T) {
	for _, c := range []struct {
		s    string
		want api.Errno
	}{
		{"", api.OK},
		{many("x", 40), api.OK},
		{many("x", 41), api.ErrSize},
		{many("\n", 41), api.ErrSize},
		{many("x", 39) + "\n", api.ErrForm},
		{"\n" + many("x", 39), api.ErrForm},
		{many("\n", 40), api.ErrForm},
		{"é", api.ErrForm},
		{many("é", 20), api.ErrForm},
		{many("é", 21), api.ErrSize}, // 42 bytes
	} {
		if e := Check(text(c.s)); e != c.want {
			t.Errorf("Check of the Text %q = %d, want %d", c.s, e, c.want)
		}
	}
}

// TestCheckBytes: each byte, alone and after another one (P2.1).
func TestCheckBytes(t *testing.T) {
	for b := range 256 {
		want := api.OK
		if b < 32 || b > 126 {
			want = api.ErrForm
		}
		s := string([]byte{byte(b)})
		for _, s := range []string{s, "a" + s, s + "a"} {
			if e := Check(text(s)); e != want {
				t.Errorf("Check of the Text %q = %d, want %d", s, e, want)
			}
		}
	}
}

// TestCheckNoString: only a Text has a string (P2.1).
func TestCheckNoString(t *testing.T) {
	for _, v := range []api.Value{number(0), truth(1), pending(), fault(1)} {
		for _, s := range []string{"a", "\n", many("x", 41), many("\n", 41)} {
			v.S = s
			if e := Check(v); e != api.ErrForm {
				t.Errorf("Check(%v) = %d, want ErrForm", v, e)
			}
		}
	}
}

// TestZero: the default value of each type, and of no other kind (P2.2).
func TestZero(t *testing.T) {
	for kind, want := range map[int]api.Value{
		api.Int: number(0), api.Bool: truth(0), api.Text: text(""),
	} {
		if v, e := Zero(kind); v != want || e != api.OK {
			t.Errorf("Zero(%d) = %v, %d, want %v", kind, v, e, want)
		}
	}
	for _, kind := range append(unknownKinds(), api.Pending, api.Fault) {
		if v, e := Zero(kind); v != (api.Value{}) || e != api.ErrKind {
			t.Errorf("Zero(%d) = %v, %d, want ErrKind", kind, v, e)
		}
	}
}

// TestKnown: only valid values of the types are known (P2.2).
func TestKnown(t *testing.T) {
	for _, v := range []api.Value{
		number(0), number(-api.MaxNumber), number(api.MaxNumber),
		truth(0), truth(1), text(""), text(" ~"), text(many("x", 40)),
	} {
		if !Known(v) {
			t.Errorf("Known(%v) = false", v)
		}
	}
	for _, v := range append(invalid(), pending(), fault(1), fault(15)) {
		if Known(v) {
			t.Errorf("Known(%v) = true", v)
		}
	}
}

// invalid are values that Check objects to.
func invalid() []api.Value {
	list := []api.Value{
		number(api.MaxNumber + 1), number(-api.MaxNumber - 1),
		truth(-1), truth(2), fault(0), fault(16),
		text(many("x", 41)), text("\x1f"), text("\x7f"), text("é"),
	}
	for _, kind := range []int{api.Int, api.Bool, api.Pending, api.Fault} {
		list = append(list, api.Value{Kind: kind, N: 0, S: "a"})
	}
	for _, kind := range []int{api.Text, api.Pending} {
		list = append(list, api.Value{Kind: kind, N: 1})
	}
	for _, kind := range unknownKinds() {
		list = append(list, anything(kind), strange(kind))
	}
	return list
}

// notations are values and how they are shown.
func notations() map[api.Value]string {
	return map[api.Value]string{
		number(0):              "0",
		number(7):              "7",
		number(-5):             "-5",
		number(10203):          "10203",
		number(api.MaxNumber):  "1099511627776",
		number(-api.MaxNumber): "-1099511627776",
		truth(0):               "false",
		truth(1):               "true",
		text(""):               `""`,
		text("a"):              `"a"`,
		text("true"):           `"true"`,
		text(" a b "):          `" a b "`,
		text(`"`):              `"\""`,
		text(`\`):              `"\\"`,
		text(`a"b`):            `"a\"b"`,
		text(`a"b\`):           `"a\"b\\"`,
		text(`\"\"`):           `"\\\"\\\""`,
		text(`\n'`):            `"\\n'"`,
		text(many(`"`, 40)):    `"` + many(`\"`, 40) + `"`,
		text(many(`\`, 40)):    `"` + many(`\\`, 40) + `"`,
		pending():              "?",
		fault(1):               "!1",
		fault(9):               "!9",
		fault(10):              "!10",
		fault(15):              "!15",
	}
}

// TestShow: the notation of values of all kinds (P2.3).
func TestShow(t *testing.T) {
	for v, want := range notations() {
		if s, e := Show(v); s != want || e != api.OK {
			t.Errorf("Show(%v) = %q, %d, want %q", v, s, e, want)
		}
	}
}

// TestShowBytes: no byte but the two has a backslash before it (P2.3).
func TestShowBytes(t *testing.T) {
	for b := byte(32); b <= 126; b++ {
		want := `"` + string([]byte{b}) + `"`
		if b == '"' || b == '\\' {
			want = `"\` + string([]byte{b}) + `"`
		}
		if s, e := Show(text(string([]byte{b}))); s != want || e != api.OK {
			t.Errorf("Show of the byte %d = %q, %d, want %q", b, s, e, want)
		}
	}
}

// TestShowErrors: the errors of Check, without a notation (P2.3).
func TestShowErrors(t *testing.T) {
	for _, v := range invalid() {
		want := Check(v)
		if s, e := Show(v); s != "" || e != want || e == api.OK {
			t.Errorf("Show(%v) = %q, %d, want %d", v, s, e, want)
		}
	}
}

// TestParse: each notation gives its value back (P2.4).
func TestParse(t *testing.T) {
	for want, s := range notations() {
		if v, e := Parse(s); v != want || e != api.OK {
			t.Errorf("Parse(%q) = %v, %d, want %v", s, v, e, want)
		}
	}
}

// TestParseErrors: strings that no value is shown as (P2.4).
func TestParseErrors(t *testing.T) {
	for _, s := range []string{
		"", " ", "x", "0x1", "1_0", "1.0", "1e3", "--1", "1-", "é",
		"01", "00", "-0", "-01", "+1", "-", "+", " 1", "1 ", "1\n",
		"1099511627777", "-1099511627777", "9223372036854775808", many("9", 99),
		"tru", "True", "TRUE", "t", "1true", "true ", "fals", " false", "falsee",
		`"`, `"a`, `a"`, `"""`, `""a`, `"a"b`, `"a""`, `""""`,
		`"\"`, `"\`, `\""`, `"\a"`, `"\n"`, `"a\`, `"a\"`, `"\\\"`, `"\\""`, `'a'`,
		"\"\n\"", "\"\x7f\"", "\"\xff\"", `"é"`, "\"\x00\"", "\"a\"\x00",
		`"` + many("x", 41) + `"`, `"` + many(`\"`, 41) + `"`, many(`"`, 9999),
		"??", "? ", " ?", "!", "!0", "!16", "!-1", "!+1", "!01", "! 1", "!1 ", "!!1", "!?",
		"!x", "!" + many("9", 99), "!1099511627777",
	} {
		if v, e := Parse(s); v != (api.Value{}) || e != api.ErrForm {
			t.Errorf("Parse(%q) = %v, %d, want ErrForm", s, v, e)
		}
	}
}

// TestParseAll: of all short strings of some bytes, those are read that have
// the form of a notation, and they are shown again as they were (P2.4).
func TestParseAll(t *testing.T) {
	form := regexp.MustCompile(`^(0|-?[1-9][0-9]*|\?|!([1-9]|1[0-5])|"([^"\\]|\\["\\])*")$`)
	var all func(s string, more int)
	all = func(s string, more int) {
		v, e := Parse(s)
		if (e == api.OK) != form.MatchString(s) {
			t.Errorf("Parse(%q) = %v, %d", s, v, e)
		}
		if shown, _ := Show(v); e == api.OK && shown != s {
			t.Errorf("Parse(%q) = %v, which is shown as %q", s, v, shown)
		}
		for _, b := range `"\?!-+016t ` {
			if more > 0 {
				all(s+string(b), more-1)
			}
		}
	}
	all("", 5)
}

// TestCompare: values in ascending order, type by type (P2.5).
func TestCompare(t *testing.T) {
	for _, list := range [][]api.Value{
		{number(-api.MaxNumber), number(-10), number(-9), number(-1), number(0),
			number(1), number(9), number(10), number(api.MaxNumber)},
		{truth(0), truth(1)},
		{text(""), text(" "), text("10"), text("9"), text("A"), text("Z"), text("a"), text("a "),
			text("aa"), text("ab"), text("b"), text("~"), text(many("~", 40))},
	} {
		for i, a := range list {
			for j, b := range list {
				want := max(-1, min(1, i-j))
				if c, e := Compare(a, b); c != want || e != api.OK {
					t.Errorf("Compare(%v, %v) = %d, %d, want %d", a, b, c, e, want)
				}
			}
		}
	}
}

// TestCompareErrors: nothing is compared with what is not known, nor with
// what is of another type (P2.5).
func TestCompareErrors(t *testing.T) {
	known := []api.Value{number(1), truth(1), text(""), text("1")}
	unknown := append(invalid(), pending(), fault(1))
	refuse := func(a, b api.Value) {
		if c, e := Compare(a, b); c != 0 || e != api.ErrType {
			t.Errorf("Compare(%v, %v) = %d, %d, want ErrType", a, b, c, e)
		}
	}
	for _, a := range known {
		for _, b := range known {
			if a.Kind != b.Kind {
				refuse(a, b)
			}
		}
	}
	for _, a := range unknown {
		for _, b := range append(known, a) {
			refuse(a, b)
			refuse(b, a)
		}
	}
}

// TestFaults: each error number is one of a Fault, and no other one (P2.1).
func TestFaults(t *testing.T) {
	for n := -3; n < 20; n++ {
		s, e := Show(fault(n))
		if valid := n >= 1 && n <= 15; valid != (e == api.OK) || valid != (s == "!"+strconv.Itoa(n)) {
			t.Errorf("Show of the Fault %d = %q, %d", n, s, e)
		}
	}
}
