package text_test

import (
	"math"
	"slices"
	"strings"
	"testing"

	"errata/text"
)

// shorts returns all strings of at most n signs of an alphabet.
func shorts(signs string, n int) []string {
	all := []string{""}
	for from := 0; n > 0; n-- {
		to := len(all)
		for _, s := range all[from:to] {
			for i := range len(signs) {
				all = append(all, s+signs[i:i+1])
			}
		}
		from = to
	}
	return all
}

// P2.1: a decimal and its number belong together, at the limits too.
func TestDecimals(t *testing.T) {
	for _, c := range []struct {
		n int
		s string
	}{
		{0, "0"}, {1, "1"}, {9, "9"}, {10, "10"}, {-1, "-1"}, {-10, "-10"}, {42, "42"}, {-305, "-305"},
		{math.MaxInt, "9223372036854775807"}, {math.MaxInt - 7, "9223372036854775800"}, {math.MinInt, "-9223372036854775808"}, {math.MinInt + 1, "-9223372036854775807"},
	} {
		if got := text.Decimal(c.n); got != c.s {
			t.Errorf("Decimal(%d) = %q", c.n, got)
		}
		if got, ok := text.Int(c.s); !ok || got != c.n {
			t.Errorf("Int(%q) = %d, %v", c.s, got, ok)
		}
	}
}

// P2.1: what is no decimal, or of no int, is refused with 0.
func TestNoDecimals(t *testing.T) {
	for _, s := range []string{
		"", "-", "--1", "-0", "-00", "-01", "00", "007", "01", "+1", "+0", "+", " 1", "1 ", "1\n", "\t1", "1_000", "0x10", "0b1", "0o7", "1e3", "1.0", "a", "1a", "1-", "1-1", "\x00", "1\x00", "\xff", "\u0661", "\uff11", "inf", "nan",
		"9223372036854775808", "-9223372036854775809", "9999999999999999999", "18446744073709551616", "-18446744073709551616", "100000000000000000000000000000000000001", "-100000000000000000000000000000000000001", strings.Repeat("9", 1000),
	} {
		if n, ok := text.Int(s); ok || n != 0 {
			t.Errorf("Int(%q) = %d, %v", s, n, ok)
		}
	}
}

// isDecimal tells decimals as the chapter defines them.
func isDecimal(s string) bool {
	if s == "0" {
		return true
	}
	s = strings.TrimPrefix(s, "-")
	return s != "" && s[0] != '0' && strings.Trim(s, "0123456789") == ""
}

// P2.1, P2.7: of all short strings exactly the decimals are accepted, and Decimal returns them.
func TestIntExactly(t *testing.T) {
	for _, s := range shorts("0129+- _x", 5) {
		n, ok := text.Int(s)
		if ok != isDecimal(s) {
			t.Fatalf("Int(%q): %v", s, ok)
		}
		if ok && text.Decimal(n) != s || !ok && n != 0 {
			t.Fatalf("Int(%q) = %d", s, n)
		}
	}
	for n := -20000; n <= 20000; n++ {
		if got, ok := text.Int(text.Decimal(n)); !ok || got != n {
			t.Fatalf("%d becomes %d", n, got)
		}
	}
	for i := range 63 {
		for _, n := range []int{1 << i, 1<<i - 1, -1 << i, -1<<i - 1} {
			if got, ok := text.Int(text.Decimal(n)); !ok || got != n {
				t.Fatalf("%d becomes %d", n, got)
			}
		}
	}
}

// quotedByte returns what stands for a byte between quotation marks, as the chapter defines it.
func quotedByte(c byte) string {
	const digits = "0123456789abcdef"
	switch {
	case c == 34:
		return `\"`
	case c == 92:
		return `\\`
	case c == 10:
		return `\n`
	case c >= 32 && c <= 126:
		return string(rune(c))
	}
	return `\x` + digits[c/16:c/16+1] + digits[c%16:c%16+1]
}

// P2.2: each byte has its own form, whatever stands beside it.
func TestQuoteBytes(t *testing.T) {
	all, quoted := "", ""
	for i := range 256 {
		c := string([]byte{byte(i)})
		all, quoted = all+c, quoted+quotedByte(byte(i))
		for _, s := range []string{c, "a" + c, c + "1", c + c} {
			want := ""
			for j := range len(s) {
				want += quotedByte(s[j])
			}
			want = `"` + want + `"`
			if got := text.Quote(s); got != want {
				t.Errorf("Quote(%q) = %s, not %s", s, got, want)
			}
			if got, ok := text.Unquote(want); !ok || got != s {
				t.Errorf("Unquote(%s) = %q, %v", want, got, ok)
			}
		}
	}
	if got := text.Quote(all); got != `"`+quoted+`"` {
		t.Errorf("all bytes: %s", got)
	}
	if got, ok := text.Unquote(`"` + quoted + `"`); !ok || got != all {
		t.Errorf("all bytes: %q, %v", got, ok)
	}
	if got := text.Quote(""); got != `""` {
		t.Errorf("the empty string: %s", got)
	}
	if got := text.Quote("\u00e9"); got != `"\xc3\xa9"` {
		t.Errorf("a rune of two bytes: %s", got)
	}
}

// P2.2: what Quote returns for no string is refused with the empty string.
func TestUnquoteRefuses(t *testing.T) {
	for _, q := range []string{
		"", `"`, "a", "''", "'a'", "`a`", `"a`, `a"`, ` "a"`, `"a" `, `"a""`, `""a"`, `"""`, `""""`, `"a"b"`, `"\"`, `"a\"`, `"\\\"`, `\"a\"`,
		`"\t"`, `"\r"`, `"\a"`, `"\0"`, `"\'"`, `"\ "`, `"\N"`, `"\X00"`, `"\u0000"`, `"\012"`,
		`"\x"`, `"\x0"`, `"\xg0"`, `"\x0g"`, `"\x+1"`, `"\x 1"`, `"\x1_"`, `"\xC8"`, `"\xFf"`, `"\xfF"`, `"\x0A"`, `"\x0a"`, `"\x20"`, `"\x41"`, `"\x7e"`, `"\x22"`, `"\x5c"`, `"\x1"`,
		"\"\n\"", "\"\t\"", "\"\x00\"", "\"\x7f\"", "\"\x80\"", "\"\xff\"", "\"\u00e9\"", "\"\\\n\"",
	} {
		if s, ok := text.Unquote(q); ok || s != "" {
			t.Errorf("Unquote(%s) = %q, %v", q, s, ok)
		}
	}
}

// P2.2, P2.7: of all short strings exactly those are accepted that Quote returns.
func TestUnquoteExactly(t *testing.T) {
	const signs = "\"\\nx07aF"
	quotes := map[string]string{}
	for _, s := range shorts("\"\\nx07aF\n\x00\x07\x0a\x70\x7a\xa0\xa7\xaa", 4) {
		quotes[text.Quote(s)] = s
	}
	for _, q := range shorts(signs, 4) {
		q = `"` + q + `"`
		s, ok := text.Unquote(q)
		want, is := quotes[q]
		if ok != is || s != want {
			t.Fatalf("Unquote(%s) = %q, %v, not %q, %v", q, s, ok, want, is)
		}
	}
	for _, q := range shorts(signs, 4) {
		if s, ok := text.Unquote(q); ok != (text.Quote(s) == q) || !ok && s != "" {
			t.Fatalf("Unquote(%s) = %q, %v", q, s, ok)
		}
	}
}

// P2.3: lines are what stands before each LF, and what follows the last one.
func TestLines(t *testing.T) {
	for _, c := range []struct {
		s string
		l []string
	}{
		{"", nil}, {"\n", []string{""}}, {"\n\n", []string{"", ""}}, {"\n\n\n", []string{"", "", ""}},
		{"a", []string{"a"}}, {"a\n", []string{"a"}}, {"\na", []string{"", "a"}}, {"a\n\n", []string{"a", ""}},
		{"a\n\nb", []string{"a", "", "b"}}, {"a\nb\n", []string{"a", "b"}}, {" ", []string{" "}}, {"a \n\t", []string{"a ", "\t"}},
		{"a\r\nb\r", []string{"a\r", "b\r"}}, {"a\vb\fc", []string{"a\vb\fc"}}, {"\xff\n\x00", []string{"\xff", "\x00"}}, {"\u2028\n\u0085", []string{"\u2028", "\u0085"}},
	} {
		if got := text.Lines(c.s); !slices.Equal(got, c.l) {
			t.Errorf("Lines(%q) = %q", c.s, got)
		}
	}
}

// P2.3: each element gets an LF, also an empty one and one that has an LF.
func TestUnlines(t *testing.T) {
	for _, c := range []struct {
		l []string
		s string
	}{
		{nil, ""}, {[]string{}, ""}, {[]string{""}, "\n"}, {[]string{"", ""}, "\n\n"}, {[]string{"a"}, "a\n"}, {[]string{"a", "", "b"}, "a\n\nb\n"},
		{[]string{"a\nb"}, "a\nb\n"}, {[]string{"a\n"}, "a\n\n"}, {[]string{"\xff\r"}, "\xff\r\n"},
	} {
		if got := text.Unlines(c.l); got != c.s {
			t.Errorf("Unlines(%q) = %q", c.l, got)
		}
	}
}

// P2.7: Lines inverts Unlines of all short lists without LFs; of each string Unlines returns its lines, the last of them with an LF.
func TestLinesInvert(t *testing.T) {
	elements := []string{"", "a", "b\r", " ", "\xff"}
	lists := [][]string{nil}
	for range 4 {
		for _, l := range lists {
			for _, e := range elements {
				lists = append(lists, append(slices.Clone(l), e))
			}
		}
		if len(lists) > 5000 {
			break
		}
	}
	for _, l := range lists {
		if got := text.Lines(text.Unlines(l)); !slices.Equal(got, l) {
			t.Fatalf("%q becomes %q", l, got)
		}
	}
	for _, s := range shorts("a\n \xff", 6) {
		want := s
		if s != "" && !strings.HasSuffix(s, "\n") {
			want += "\n"
		}
		if got := text.Unlines(text.Lines(s)); got != want {
			t.Fatalf("%q becomes %q", s, got)
		}
	}
}

// P2.3: fields are told apart by spaces, tabs and LFs, and by nothing else.
func TestFields(t *testing.T) {
	for _, c := range []struct {
		s string
		l []string
	}{
		{"", nil}, {" ", nil}, {" \t\n \n", nil}, {"a", []string{"a"}}, {" a  b\n", []string{"a", "b"}}, {"a\tb\nc d", []string{"a", "b", "c", "d"}},
		{"ab", []string{"ab"}}, {"\nab\t\tcd", []string{"ab", "cd"}}, {"a\rb \vc\f", []string{"a\rb", "\vc\f"}},
		{"\u00a0 \u2003x\u0085", []string{"\u00a0", "\u2003x\u0085"}}, {"\x00 \xff\xfe\t\x80", []string{"\x00", "\xff\xfe", "\x80"}}, {"\x1f!\x08\x0b", []string{"\x1f!\x08\x0b"}},
	} {
		if got := text.Fields(c.s); !slices.Equal(got, c.l) {
			t.Errorf("Fields(%q) = %q", c.s, got)
		}
	}
	for i := range 256 {
		c := string([]byte{byte(i)})
		want := []string{"a" + c + "b"}
		if i == 32 || i == 9 || i == 10 {
			want = []string{"a", "b"}
		}
		if got := text.Fields("a" + c + "b"); !slices.Equal(got, want) {
			t.Errorf("byte %d: %q", i, got)
		}
	}
}

// P2.3: for all short strings the fields are the longest parts without white bytes.
func TestFieldsExactly(t *testing.T) {
	for _, s := range shorts("ab \t\n", 6) {
		one := strings.ReplaceAll(strings.ReplaceAll(s, "\t", " "), "\n", " ")
		var want []string
		for _, f := range strings.Split(one, " ") {
			if f != "" {
				want = append(want, f)
			}
		}
		if got := text.Fields(s); !slices.Equal(got, want) {
			t.Fatalf("Fields(%q) = %q", s, got)
		}
	}
}

// P2.6: lists are new ones each time, with no room that another result uses, and arguments stay as they are.
func TestFresh(t *testing.T) {
	for name, f := range map[string]func(string) []string{"Lines": text.Lines, "Fields": text.Fields} {
		first, second := f("a\nb\nc\n"), f("a\nb\nc\n")
		first[0] = "x"
		_ = append(first[:1], "y", "z")
		if !slices.Equal(second, []string{"a", "b", "c"}) || !slices.Equal(f("a\nb\nc\n"), second) {
			t.Errorf("%s: %q", name, second)
		}
	}
	l := []string{"a", "b", "c"}
	if text.Unlines(l[:2]) != "a\nb\n" || !slices.Equal(l, []string{"a", "b", "c"}) {
		t.Errorf("Unlines: %q", l)
	}
}

// P2.6: a second call returns what the first did, whatever came between.
func TestPure(t *testing.T) {
	samples := shorts("[a]!-*\\\n", 3)
	all := func() []string {
		var results []string
		for _, s := range samples {
			u, uok := text.Unquote(s)
			n, nok := text.Int(s)
			results = append(results, text.Quote(s), u, text.Decimal(n), text.Plain(s), text.Escape(s))
			results = append(results, text.Lines(s)...)
			results = append(results, text.Fields(s)...)
			for _, b := range []bool{uok, nok, text.Magic(s), text.Pattern(s, "a"), text.Pattern("[!a]*", s)} {
				results = append(results, map[bool]string{true: "yes", false: "no"}[b])
			}
		}
		return results
	}
	if !slices.Equal(all(), all()) {
		t.Error("two calls with the same arguments differ")
	}
}
