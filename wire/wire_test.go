package wire_test

import (
	"math"
	"slices"
	"strings"
	"testing"

	"errata/wire"
)

// P1.1: numbers, ints, strings and lists are written as the table of the chapter says.
func TestWrite(t *testing.T) {
	long := strings.Repeat("x", 123)
	for _, c := range []struct{ name, got, want string }{
		{"Num 0", wire.Num(0), "0;"},
		{"Num 9", wire.Num(9), "9;"},
		{"Num 10", wire.Num(10), "10;"},
		{"Num 300", wire.Num(300), "300;"},
		{"Num max", wire.Num(math.MaxInt), "9223372036854775807;"},
		{"Num -1", wire.Num(-1), ""},
		{"Num min", wire.Num(math.MinInt), ""},
		{"Int 0", wire.Int(0), "0;"},
		{"Int 7", wire.Int(7), "7;"},
		{"Int -7", wire.Int(-7), "-7;"},
		{"Int -10", wire.Int(-10), "-10;"},
		{"Int max", wire.Int(math.MaxInt), "9223372036854775807;"},
		{"Int min", wire.Int(math.MinInt), "-9223372036854775808;"},
		{"Text empty", wire.Text(""), "0:,"},
		{"Text a,b", wire.Text("a,b"), "3:a,b,"},
		{"Text digits", wire.Text("12;"), "3:12;,"},
		{"Text bytes", wire.Text("\x00\xff\u00e9"), "4:\x00\xff\xc3\xa9,"},
		{"Text long", wire.Text(long), "123:" + long + ","},
		{"Nums nil", wire.Nums(nil), "0[]"},
		{"Nums empty", wire.Nums([]int{}), "0[]"},
		{"Nums", wire.Nums([]int{1, -1}), "2[1;-1;]"},
		{"Nums limits", wire.Nums([]int{math.MinInt, 0, math.MaxInt}), "3[-9223372036854775808;0;9223372036854775807;]"},
		{"Nums ten", wire.Nums(make([]int, 10)), "10[0;0;0;0;0;0;0;0;0;0;]"},
		{"Texts nil", wire.Texts(nil), "0[]"},
		{"Texts", wire.Texts([]string{"", "x", "]"}), "3[0:,1:x,1:],]"},
	} {
		if c.got != c.want {
			t.Errorf("%s: %q, not %q", c.name, c.got, c.want)
		}
	}
}

// P1.2: each method takes its encoding and leaves the reader after it.
func TestReadMoves(t *testing.T) {
	r := wire.Open("12;-12;3:a,b,2[1;-1;]2[0:,1:x,]0[]0[]tail")
	left := func(n int) {
		t.Helper()
		if r.Left() != n || r.Done() {
			t.Errorf("left %d, not %d; done %v", r.Left(), n, r.Done())
		}
	}
	left(41)
	if n := r.Num(); n != 12 {
		t.Error("Num", n)
	}
	left(38)
	if n := r.Int(); n != -12 {
		t.Error("Int", n)
	}
	left(34)
	if s := r.Text(); s != "a,b" {
		t.Errorf("Text %q", s)
	}
	left(28)
	if l := r.Nums(); !slices.Equal(l, []int{1, -1}) {
		t.Error("Nums", l)
	}
	left(20)
	if l := r.Texts(); !slices.Equal(l, []string{"", "x"}) {
		t.Errorf("Texts %q", l)
	}
	left(10)
	if l := r.Nums(); len(l) != 0 {
		t.Error("Nums of none", l)
	}
	left(7)
	if l := r.Texts(); len(l) != 0 {
		t.Error("Texts of none", l)
	}
	left(4)
	if s := r.Rest(); s != "tail" {
		t.Errorf("Rest %q", s)
	}
	if r.Left() != 0 || !r.Done() {
		t.Error("not done after Rest", r.Left())
	}
	if s := r.Rest(); s != "" || !r.Done() {
		t.Errorf("second Rest %q", s)
	}
}

// P1.2: an empty string has been read, until something is asked of it.
func TestReadEmpty(t *testing.T) {
	r := wire.Open("")
	if !r.Done() || r.Left() != 0 || r.Rest() != "" || !r.Done() {
		t.Error("an empty string is not done")
	}
	if r.Num() != 0 || r.Done() {
		t.Error("a number at the end")
	}
}

// reads are the five methods that read values; each reports whether its result is the zero value.
func reads() map[string]func(*wire.Reader) bool {
	return map[string]func(*wire.Reader) bool{
		"Num":   func(r *wire.Reader) bool { return r.Num() == 0 },
		"Int":   func(r *wire.Reader) bool { return r.Int() == 0 },
		"Text":  func(r *wire.Reader) bool { return r.Text() == "" },
		"Nums":  func(r *wire.Reader) bool { return len(r.Nums()) == 0 },
		"Texts": func(r *wire.Reader) bool { return len(r.Texts()) == 0 },
	}
}

// noEncodings lists for each method strings that begin with no encoding of its kind.
func noEncodings() map[string][]string {
	ints := []string{"", ";", "-", "-;", "-0;", "00;", "01;", "007;", "-01;", "--1;", "+1;", "+0;", "1", "12", "1,", "1:", " 1;", "1 ;", "1_0;", "0x1;", "1e1;", "1.0;", "a;", "\x00;", "\u0661;", "9223372036854775808;", "-9223372036854775809;", "18446744073709551616;", "18446744073709551617;", "123456789012345678901234;"}
	texts := []string{"", ":", ",", ":,", "0", "0:", "0,", "0;", "1:", "1:a", "1:a;", "1:ab", "1:ab,", "2:a,", "-1:a,", "-0:,", "01:a,", "00:,", "+1:a,", "1;a,", "9223372036854775807:,", "9223372036854775808:,", "9223372036854775807:a,", "18446744073709551616:,"}
	lists := []string{"", "[", "]", "[]", "0", "0[", "0]", "0;", "00[]", "-0[]", "-1[]", "+0[]", "1[]", "01[1;]", "9223372036854775807[1;]", "9223372036854775808[]", "18446744073709551616[]", "0[;]", "0[0;]", "0[0:,]"}
	return map[string][]string{
		"Num":   append([]string{"-1;", "-12;", "-9223372036854775808;"}, ints...),
		"Int":   ints,
		"Text":  texts,
		"Nums":  append([]string{"1[1;", "1[1;,", "1[1]", "1[01;]", "1[-0;]", "1[1;2;]", "2[1;]", "2[1;2;3;]", "2[1;2;", "2[1;x;]", "1[0:,]", "1[0[]]"}, lists...),
		"Texts": append([]string{"1[0:,", "1[0:,,", "1[1:a]", "1[01:a,]", "1[0:,0:,]", "2[0:,]", "2[0:,0:,", "2[0:,x:,]", "1[0;]", "1[0[]]"}, lists...),
	}
}

// P1.2: what is no encoding makes the reader fail, for this call and for all later ones.
func TestReadFails(t *testing.T) {
	all := reads()
	for name, l := range noEncodings() {
		for _, s := range l {
			r := wire.Open(s)
			if !all[name](r) || r.Done() || r.Left() != 0 {
				t.Errorf("%s of %q: left %d, done %v", name, s, r.Left(), r.Done())
			}
			for later, read := range all {
				if !read(r) {
					t.Errorf("%s after %s of %q", later, name, s)
				}
			}
			if r.Rest() != "" || r.Left() != 0 || r.Done() {
				t.Errorf("Rest after %s of %q", name, s)
			}
		}
	}
}

// P1.2: a reader that has failed does not come back, although encodings follow, or stand inside what failed.
func TestFailureStays(t *testing.T) {
	for first, begin := range map[string]string{"Num": "-1;", "Int": "x", "Text": "1:ab", "Nums": "2[7;]", "Texts": "2[1:a,]"} {
		for later, more := range map[string]string{"Num": "5;", "Int": "-5;", "Text": "1:c,", "Nums": "1[3;]", "Texts": "1[1:d,]"} {
			r := wire.Open(begin + more + more)
			if !reads()[first](r) || !reads()[later](r) || r.Left() != 0 || r.Rest() != "" || r.Done() || !reads()[later](r) {
				t.Errorf("%s of %q, then %s of %q", first, begin, later, more)
			}
		}
	}
	r := wire.Open("1[1:a,]")
	if l := r.Nums(); len(l) != 0 {
		t.Error("Nums of texts", l)
	}
	if l := r.Texts(); len(l) != 0 || r.Done() {
		t.Errorf("Texts after a failure %q", l)
	}
}

// P1.2: a failure after something was read is one too.
func TestFailureLater(t *testing.T) {
	r := wire.Open("1;ab;2;")
	if r.Num() != 1 || r.Left() != 5 || r.Num() != 0 || r.Num() != 0 || r.Left() != 0 || r.Rest() != "" || r.Done() {
		t.Error(r.Left(), r.Done())
	}
}

// P1.2: two readers of the same string do not depend on each other.
func TestReadersApart(t *testing.T) {
	s := "1;2;"
	a, b := wire.Open(s), wire.Open(s)
	if a.Num() != 1 || b.Text() != "" || a.Num() != 2 || !a.Done() || b.Done() {
		t.Error("one reader moved or failed by the other")
	}
}

// P1.3: arguments stay as they are, also beyond their length, and results share no memory.
func TestMemory(t *testing.T) {
	ints, texts := []int{1, 2, 3, 4}, []string{"a", "b", "c"}
	if s := wire.Nums(ints[1:3]); s != "2[2;3;]" || !slices.Equal(ints, []int{1, 2, 3, 4}) {
		t.Error(s, ints)
	}
	if s := wire.Texts(texts[:2]); s != "2[1:a,1:b,]" || !slices.Equal(texts, []string{"a", "b", "c"}) {
		t.Error(s, texts)
	}
	r := wire.Open("2[1;2;]2[1;2;]1[1:a,]1[1:a,]")
	m, n := r.Nums(), r.Nums()
	m[0] = 9
	_ = append(m, 8)
	if !slices.Equal(n, []int{1, 2}) {
		t.Error("Nums shares", n)
	}
	u, v := r.Texts(), r.Texts()
	u[0] = "z"
	_ = append(u, "y")
	if !slices.Equal(v, []string{"a"}) || !r.Done() {
		t.Error("Texts shares", v)
	}
}

// P1.4: reading what was written gives the value back, and nothing is left.
func TestRoundTrip(t *testing.T) {
	var ints []int
	for shift := range 64 {
		n := 1 << shift
		ints = append(ints, n-1, n, n+1, -n, 1-n, -n-1)
	}
	for n := 1; n > 0 && n < math.MaxInt/10; n *= 10 {
		ints = append(ints, n-1, n, -n, 1-n)
	}
	for _, n := range ints {
		r := wire.Open(wire.Int(n))
		if m := r.Int(); m != n || !r.Done() {
			t.Error("Int", n, m)
		}
		r = wire.Open(wire.Num(n))
		if m := r.Num(); n >= 0 && (m != n || !r.Done()) || n < 0 && (m != 0 || r.Done()) {
			t.Error("Num", n, m)
		}
	}
	r := wire.Open(wire.Nums(ints))
	if l := r.Nums(); !slices.Equal(l, ints) || !r.Done() {
		t.Error("Nums", l)
	}
	texts := []string{"", ",", ":", "0:,", "1[1;]", "\x00", "\xff\xfe", "\u00e9\u4e16", strings.Repeat("]", 1000)}
	for _, s := range texts {
		r := wire.Open(wire.Text(s))
		if u := r.Text(); u != s || !r.Done() {
			t.Errorf("Text %q %q", s, u)
		}
	}
	r = wire.Open(wire.Texts(texts))
	if l := r.Texts(); !slices.Equal(l, texts) || !r.Done() {
		t.Errorf("Texts %q", l)
	}
}

// shortest is the length up to which TestShortStrings tries every string of the signs.
const shortest = 6

// signs are the bytes that encodings consist of, with two digits and a byte that only strings contain.
const signs = "01-;:,[]a"

// strs returns all strings of the signs with up to n bytes.
func strs(n int) []string {
	all := []string{""}
	for from := 0; n > 0; n-- {
		to := len(all)
		for _, s := range all[from:to] {
			for i := range len(signs) {
				all = append(all, s+signs[i:i+1])
			}
		}
		from = to
	}
	return all
}

// encodings returns, by the definition of the chapter, the encodings with up to six bytes of the signs.
func encodings() map[string][]string {
	var nums []string
	for _, s := range strs(shortest - 1) {
		if s == "0" || s != "" && s[0] == '1' && strings.Trim(s, "01") == "" {
			nums = append(nums, s+";")
		}
	}
	ints := slices.Clone(nums)
	for _, s := range nums {
		if s != "0;" && len(s) < shortest {
			ints = append(ints, "-"+s)
		}
	}
	texts := []string{"0:,"}
	for _, s := range strs(1)[1:] {
		texts = append(texts, "1:"+s+",")
	}
	numLists, textLists := []string{"0[]"}, []string{"0[]", "1[0:,]"}
	for _, s := range ints {
		if len(s) <= shortest-3 {
			numLists = append(numLists, "1["+s+"]")
		}
	}
	return map[string][]string{"Num": nums, "Int": ints, "Text": texts, "Nums": numLists, "Texts": textLists}
}

// rewrites are the five kinds: each reads a value and writes it again.
func rewrites() map[string]func(*wire.Reader) string {
	return map[string]func(*wire.Reader) string{
		"Num":   func(r *wire.Reader) string { return wire.Num(r.Num()) },
		"Int":   func(r *wire.Reader) string { return wire.Int(r.Int()) },
		"Text":  func(r *wire.Reader) string { return wire.Text(r.Text()) },
		"Nums":  func(r *wire.Reader) string { return wire.Nums(r.Nums()) },
		"Texts": func(r *wire.Reader) string { return wire.Texts(r.Texts()) },
	}
}

// P1.2 and P1.4: among all short strings exactly those that begin with an encoding are read, and what is read has the bytes that were read as its encoding.
func TestShortStrings(t *testing.T) {
	all, rewrite := encodings(), rewrites()
	for name, l := range all {
		known := map[string]bool{}
		for _, e := range l {
			known[e] = true
		}
		for _, s := range strs(shortest) {
			want := ""
			for i := range len(s) + 1 {
				if known[s[:i]] {
					want = s[:i]
				}
			}
			r := wire.Open(s)
			got := rewrite[name](r)
			failed := r.Left() == 0 && !r.Done()
			if failed != (want == "") || !failed && (got != want || r.Left() != len(s)-len(want)) {
				t.Fatalf("%s of %q: %q, left %d, done %v", name, s, got, r.Left(), r.Done())
			}
		}
	}
}

// P1.4: an encoding in which one byte is another, is left out or is added is no encoding, or that of what is read.
func TestChangedBytes(t *testing.T) {
	whole := map[string]string{
		"Num":   wire.Num(1010),
		"Int":   wire.Int(-1010),
		"Text":  wire.Text("1:a,0[]110"),
		"Nums":  wire.Nums([]int{0, -1, 10, 1101}),
		"Texts": wire.Texts([]string{"", "1:a,", "0[],,0:,"}),
	}
	for name, rewrite := range rewrites() {
		for _, s := range changed(whole[name]) {
			r := wire.Open(s)
			got := rewrite(r)
			if failed := r.Left() == 0 && !r.Done(); !failed && got != s[:len(s)-r.Left()] {
				t.Errorf("%s of %q: %q", name, s, got)
			}
		}
	}
}

// changed returns the strings that differ from s in one byte.
func changed(s string) []string {
	var l []string
	for i := range len(s) {
		l = append(l, s[:i]+s[i+1:])
		for j := range len(signs) {
			l = append(l, s[:i]+signs[j:j+1]+s[i+1:], s[:i]+signs[j:j+1]+s[i:])
		}
	}
	return l
}

// P1.4: no encoding begins another one of the same kind.
func TestNoPrefixes(t *testing.T) {
	kinds := map[string][]string{}
	for n := -1200; n <= 1200; n++ {
		kinds["Int"] = append(kinds["Int"], wire.Int(n))
		if n >= 0 {
			kinds["Num"] = append(kinds["Num"], wire.Num(n))
		}
		kinds["Nums"] = append(kinds["Nums"], wire.Nums([]int{n}), wire.Nums([]int{n, n}), wire.Nums([]int{1, n}))
	}
	for _, s := range strs(4) {
		kinds["Text"] = append(kinds["Text"], wire.Text(s))
		kinds["Texts"] = append(kinds["Texts"], wire.Texts([]string{s}), wire.Texts([]string{s, ""}), wire.Texts([]string{"", s}))
	}
	kinds["Nums"] = append(kinds["Nums"], wire.Nums(nil))
	kinds["Texts"] = append(kinds["Texts"], wire.Texts(nil))
	for name, l := range kinds {
		slices.Sort(l)
		l = slices.Compact(l)
		for i := range len(l) - 1 {
			// In ascending order a prefix stands right before one of the strings that it begins.
			if strings.HasPrefix(l[i+1], l[i]) {
				t.Errorf("%s: %q begins %q", name, l[i], l[i+1])
			}
		}
	}
}

// P1.5: encodings stand one after the other, and inside of strings, and are read one by one.
func TestNesting(t *testing.T) {
	inner := wire.Texts([]string{wire.Int(-3), wire.Text("]"), ""}) + wire.Nums([]int{4}) + wire.Num(5)
	s := ""
	for range 20 {
		inner = wire.Text(inner)
		s = wire.Texts([]string{inner, wire.Nums([]int{1, 2}), "[,;:"}) + wire.Int(-1) + wire.Num(2) + s
	}
	r := wire.Open(s)
	for depth := 20; depth > 0; depth-- {
		l := r.Texts()
		if r.Int() != -1 || r.Num() != 2 || len(l) != 3 || l[1] != "2[1;2;]" || l[2] != "[,;:" {
			t.Fatalf("at depth %d %q", depth, l)
		}
		core := l[0]
		for range depth {
			in := wire.Open(core)
			core = in.Text()
			if !in.Done() {
				t.Fatal("a nested string has a rest", depth)
			}
		}
		in := wire.Open(core)
		if l := in.Texts(); !slices.Equal(l, []string{"-3;", "1:],", ""}) {
			t.Fatalf("inside of depth %d %q", depth, l)
		}
		if l := in.Nums(); !slices.Equal(l, []int{4}) || in.Num() != 5 || !in.Done() {
			t.Fatal("inside of depth", depth, l)
		}
	}
	if !r.Done() {
		t.Error("a rest", r.Left())
	}
}

// P1.5: any byte may stand in a string.
func TestAnyBytes(t *testing.T) {
	var b strings.Builder
	for c := range 256 {
		b.WriteByte(byte(c))
		one := string([]byte{byte(c)})
		r := wire.Open(wire.Text(one) + wire.Texts([]string{one, one + one}))
		if r.Text() != one || !slices.Equal(r.Texts(), []string{one, one + one}) || !r.Done() {
			t.Errorf("byte %d", c)
		}
	}
	r := wire.Open(wire.Text(b.String()) + b.String())
	if r.Text() != b.String() || r.Rest() != b.String() || !r.Done() {
		t.Error("all bytes")
	}
}

// P1: lengths that nothing stands behind end soon.
func TestGreatLengths(t *testing.T) {
	const most = "9223372036854775807"
	for _, s := range []string{most + "[", most + "[" + strings.Repeat("1;", 1000), most + "[" + strings.Repeat("0:,", 1000), most + ":" + strings.Repeat(",", 1000)} {
		for name, read := range reads() {
			if r := wire.Open(s); !read(r) || r.Done() || r.Left() != 0 {
				t.Errorf("%s of %.30q", name, s)
			}
		}
	}
}
