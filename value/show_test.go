package value_test

import (
	"math"
	"slices"
	"strings"
	"testing"

	"errata/api"
	"errata/text"
	"errata/value"
)

// P3.5: the texts of right values, and back.
func TestShow(t *testing.T) {
	for _, c := range []struct {
		v api.Value
		s string
	}{
		{value.Int(-3), "-3"}, {value.Text(`a"b`), `"a\"b"`}, {value.Bool(true), "true"}, {value.Bool(false), "false"},
		{value.Int(0), "0"}, {value.Int(1), "1"}, {value.Int(math.MaxInt), "9223372036854775807"}, {value.Int(math.MinInt), "-9223372036854775808"},
		{value.Text(""), `""`}, {value.Text("true"), `"true"`}, {value.Text("1"), `"1"`}, {value.Text("\\\n\x00\u00e9"), `"\\\n\x00\xc3\xa9"`},
		{value.Text(strings.Repeat("x", 200)), `"` + strings.Repeat("x", 200) + `"`}, {value.Text(strings.Repeat("\xff", 200)), `"` + strings.Repeat(`\xff`, 200) + `"`},
	} {
		if got := value.Show(c.v); got != c.s {
			t.Errorf("Show: %s, not %s", got, c.s)
		}
		if got, ok := value.Parse(c.s); !ok || got != c.v {
			t.Errorf("Parse(%s) = %v, %v", c.s, got, ok)
		}
		if got := value.ShowRow([]api.Value{c.v, c.v}); got != "("+c.s+", "+c.s+")" {
			t.Errorf("ShowRow: %s", got)
		}
	}
}

// P3.5: the texts of rows, and back; a row may have more than 12 values.
func TestShowRow(t *testing.T) {
	for _, c := range []struct {
		r []api.Value
		s string
	}{
		{nil, "()"}, {[]api.Value{}, "()"}, {[]api.Value{value.Int(-3), value.Text(`a"b`), value.Bool(true)}, `(-3, "a\"b", true)`},
		{[]api.Value{value.Int(1)}, "(1)"}, {[]api.Value{value.Text("")}, `("")`}, {[]api.Value{value.Bool(false), value.Int(0)}, "(false, 0)"},
		{[]api.Value{value.Text(")"), value.Text(", "), value.Text(`", "`)}, `(")", ", ", "\", \"")`}, {[]api.Value{value.Text(`\`), value.Text("()")}, `("\\", "()")`},
		{slices.Repeat([]api.Value{value.Int(7)}, 13), "(7" + strings.Repeat(", 7", 12) + ")"},
	} {
		if got := value.ShowRow(c.r); got != c.s {
			t.Errorf("ShowRow: %s, not %s", got, c.s)
		}
		if got, ok := value.ParseRow(c.s); !ok || !slices.Equal(got, c.r) {
			t.Errorf("ParseRow(%s) = %v, %v", c.s, got, ok)
		}
	}
}

// P3.5: a value that is not right has no text, nor has a row with one, wherever it stands.
func TestShowWrong(t *testing.T) {
	for _, v := range append(ordered(), value.Text(strings.Repeat("x", 201)), value.Zero(-1), value.Zero(api.VKinds)) {
		if (value.Show(v) == "") == isRight(v) {
			t.Errorf("Show of %d %d %q: %s", v.Kind, v.N, v.S, value.Show(v))
		}
		for n := range 4 {
			r := slices.Repeat([]api.Value{value.Int(1)}, 4)
			r[n] = v
			if (value.ShowRow(r) == "") == isRight(v) {
				t.Errorf("ShowRow with %d %d %q at %d: %s", v.Kind, v.N, v.S, n, value.ShowRow(r))
			}
		}
	}
}

// P3.8: Parse and ParseRow invert Show and ShowRow for all right values.
func TestParseInverts(t *testing.T) {
	var right []api.Value
	for _, v := range ordered() {
		if isRight(v) {
			right = append(right, v)
		}
	}
	for c := range 256 {
		one := string([]byte{byte(c)})
		right = append(right, value.Text(one), value.Text(one+one), value.Text(`"`+one), value.Text(one+`"`), value.Text(`\`+one), value.Text(one+`\`), value.Text(one+", "+one))
	}
	for _, v := range right {
		if got, ok := value.Parse(value.Show(v)); !ok || got != v {
			t.Fatalf("%s becomes %v, %v", value.Show(v), got, ok)
		}
		for _, w := range few()[:4] {
			for _, r := range [][]api.Value{{v}, {v, w}, {w, v}, {w, v, w}} {
				if got, ok := value.ParseRow(value.ShowRow(r)); !ok || !slices.Equal(got, r) {
					t.Fatalf("%s becomes %v, %v", value.ShowRow(r), got, ok)
				}
			}
		}
	}
	if got, ok := value.ParseRow(value.ShowRow(right)); !ok || !slices.Equal(got, right) {
		t.Error("a row of all of them")
	}
	for _, r := range rows([]api.Value{value.Int(-10), value.Text(`", "`), value.Text(`\"`), value.Bool(false)}, 4) {
		if got, ok := value.ParseRow(value.ShowRow(r)); !ok || !slices.Equal(got, r) {
			t.Fatalf("%s becomes %v, %v", value.ShowRow(r), got, ok)
		}
	}
}

// P3.5: what is no text of a right value is refused with a zero value.
func TestParseRefuses(t *testing.T) {
	for _, s := range []string{
		"", " ", "-", "-0", "01", "+1", "1.", "1 ", " 1", "1,", "--1", "9223372036854775808", "-9223372036854775809", "0x1", "1_0",
		"True", "TRUE", "tru", "truee", "true ", " true", "t", "False", "fals", "falsefalse", "false\n", "null", "a",
		`"`, `"a`, `a"`, "'a'", "`a`", `"a"b`, `"a""b"`, `"a" `, ` "a"`, `"\"`, `"\t"`, `"\x41"`, `"\xFF"`, "\"\n\"", "\"\xff\"", `"true`, "()", "(1)",
		`"` + strings.Repeat("x", 201) + `"`, `"` + strings.Repeat(`\x00`, 201) + `"`, `"` + strings.Repeat("x", 5000) + `"`,
	} {
		if got, ok := value.Parse(s); ok || got != (api.Value{}) {
			t.Errorf("Parse(%s) = %v, %v", s, got, ok)
		}
		if got, ok := value.ParseRow("(" + s + ")"); s != "" && (ok || len(got) != 0) {
			t.Errorf("ParseRow((%s)) = %v, %v", s, got, ok)
		}
		if got, ok := value.ParseRow("(1, " + s + ", true)"); ok || len(got) != 0 {
			t.Errorf("ParseRow((1, %s, true)) = %v, %v", s, got, ok)
		}
	}
}

// P3.5: what is no text of a row of right values is refused with no row.
func TestParseRowRefuses(t *testing.T) {
	for _, s := range []string{
		"", "(", ")", ")(", "( )", "()()", "() ", " ()", "((", "))", "(()", "())", "(())", "((1))", "[]", "{1}", "1", "1, 2", "(1", "1)", `"a"`,
		"(1,2)", "(1 ,2)", "(1 , 2)", "(1,  2)", "(1,\t2)", "(1,\n2)", "(1 2)", "(1;2)", "(1, )", "(1,)", "(, 1)", "(,1)", "(,)", "(, )", "(1, , 2)", "(1,, 2)", "(1, 2, )", "(1, 2,)", "(1, 2", "(1, 2))", "(1), (2)", "(1)(2)",
		`("a)`, `(a")`, `("a", "b)`, `("a" "b")`, `("a""b")`, `("a"1)`, `(1"a")`, `("a\")`, `("a\\\")`, `("a)"`, `("a", `, `("`, `("\`, `(")`, `("\)`,
	} {
		if got, ok := value.ParseRow(s); ok || len(got) != 0 {
			t.Errorf("ParseRow(%s) = %v, %v", s, got, ok)
		}
	}
}

// shortTexts returns the texts with at most n bytes (2 to 6 of them) of ints, and of texts of some signs, with their values.
func shortTexts(n int) map[string]api.Value {
	known := map[string]api.Value{}
	for i := range int(math.Pow10(n)) {
		for _, i := range []int{i, -i} {
			if s := text.Decimal(i); len(s) <= n {
				known[s] = value.Int(i)
			}
		}
	}
	each("01-\"\\n, ()\n", n-2, func(s string) {
		if q := text.Quote(s); len(q) <= n {
			known[q] = value.Text(s)
		}
	})
	return known
}

// P3.8: of all short strings exactly those are accepted that Show returns.
func TestParseExactly(t *testing.T) {
	known := shortTexts(5)
	each(`01-"\n, ()`, 5, func(s string) {
		got, ok := value.Parse(s)
		want, is := known[s]
		if ok != is || got != want {
			t.Fatalf("Parse(%s) = %v, %v", s, got, ok)
		}
	})
	each("truefals", 5, func(s string) {
		got, ok := value.Parse(s)
		if ok != (s == "true" || s == "false") || ok && got != value.Bool(s == "true") || !ok && got != (api.Value{}) {
			t.Fatalf("Parse(%s) = %v, %v", s, got, ok)
		}
	})
}

// P3.8: of all short strings between parentheses, and without them, exactly those are accepted that ShowRow returns.
func TestParseRowExactly(t *testing.T) {
	known := map[string]bool{"()": true}
	for s := range shortTexts(6) {
		known["("+s+")"] = true
	}
	shorter := shortTexts(3)
	for a := range shorter {
		for b := range shorter {
			known["("+a+", "+b+")"] = true
		}
	}
	each(`1"\, ()`, 6, func(inner string) {
		for _, s := range []string{"(" + inner + ")", inner} {
			got, ok := value.ParseRow(s)
			if ok != known[s] || ok && value.ShowRow(got) != s || !ok && len(got) != 0 {
				t.Fatalf("ParseRow(%s) = %v, %v", s, got, ok)
			}
		}
	})
}

// P3.8: a text that is altered in one byte is refused, or it is that of what is read.
func TestParseAltered(t *testing.T) {
	r := []api.Value{value.Text(", )"), value.Int(-10), value.Bool(false), value.Text("\\\"\n\x00"), value.Bool(true), value.Int(0)}
	for _, s := range altered(value.ShowRow(r), "019-\"\\nx, ()t") {
		got, ok := value.ParseRow(s)
		if ok && value.ShowRow(got) != s || !ok && len(got) != 0 {
			t.Errorf("ParseRow(%s) = %v, %v", s, got, ok)
		}
	}
}

// P1: long strings are read in one pass, whether they are texts or not.
func TestLongTexts(t *testing.T) {
	const n = 200000
	r := slices.Repeat([]api.Value{value.Text(`"`), value.Int(-1)}, n)
	if got, ok := value.ParseRow(value.ShowRow(r)); !ok || !slices.Equal(got, r) {
		t.Error("a row with many values")
	}
	if got, ok := value.ReadRow(value.RowBytes(r)); !ok || !slices.Equal(got, r) {
		t.Error("the encoding of a row with many values")
	}
	for _, s := range []string{"(", ")", "()", `"`, `\`, `\"`, `("`, "(1, ", "1, ", ", ", `"", `, "1", "-", "0;", "1;0;1:a,"} {
		long := strings.Repeat(s, n)
		for _, s := range []string{long, "(" + long + ")", `("` + long + `")`, `("` + long, "(1, " + long + ")"} {
			if got, ok := value.ParseRow(s); ok || len(got) != 0 {
				t.Errorf("ParseRow of %.20q", s)
			}
			if got, ok := value.Parse(s); ok || got != (api.Value{}) {
				t.Errorf("Parse of %.20q", s)
			}
			if got, ok := value.ReadRow("400000;" + s); ok || len(got) != 0 {
				t.Errorf("ReadRow of %.20q", s)
			}
		}
	}
}
