package value_test

import (
	"cmp"
	"math"
	"slices"
	"strings"
	"testing"

	"errata/api"
	"errata/value"
)

// ordered returns values of all kinds, right and wrong ones, in the order of values as the chapter defines it.
func ordered() []api.Value {
	var all []api.Value
	for _, kind := range []int{math.MinInt, -1, api.VInt, api.VText, api.VBool, api.VKinds, math.MaxInt} {
		for _, n := range []int{math.MinInt, -1, 0, 1, 2, 10, math.MaxInt} {
			for _, s := range []string{"", "\x00", "B", "a", "a\x00", "aa", "b", "\xff"} {
				all = append(all, api.Value{Kind: kind, N: n, S: s})
			}
		}
	}
	return all
}

// rows returns all rows of at most n of the values.
func rows(values []api.Value, n int) [][]api.Value {
	all := [][]api.Value{nil}
	for from := 0; n > 0; n-- {
		to := len(all)
		for _, r := range all[from:to] {
			for _, v := range values {
				all = append(all, append(slices.Clone(r), v))
			}
		}
		from = to
	}
	return all
}

// few returns values that differ in one part each, in their order: a wrong one among them.
func few() []api.Value {
	return []api.Value{value.Int(-1), value.Int(1), value.Text("a"), value.Text("b"), {Kind: api.VText, N: 1, S: "a"}, value.Bool(true)}
}

// P3.1: the parts of new values are what the arguments say, and empty otherwise.
func TestNewValues(t *testing.T) {
	for _, n := range []int{0, 1, -1, math.MaxInt, math.MinInt} {
		if got := value.Int(n); got.Kind != api.VInt || got.N != n || got.S != "" {
			t.Error("Int", n, got)
		}
		if got := value.Zero(n); got.Kind != n || got.N != 0 || got.S != "" {
			t.Error("Zero", n, got)
		}
	}
	for kind := range api.VKinds {
		if got := value.Zero(kind); got.Kind != kind || got.N != 0 || got.S != "" {
			t.Error("Zero", kind, got)
		}
	}
	for _, s := range []string{"", "a", "1", "\x00\xff", strings.Repeat("x", 201)} {
		if got := value.Text(s); got.Kind != api.VText || got.N != 0 || got.S != s {
			t.Errorf("Text(%q) = %v", s, got)
		}
	}
	for b, n := range map[bool]int{false: 0, true: 1} {
		if got := value.Bool(b); got.Kind != api.VBool || got.N != n || got.S != "" {
			t.Error("Bool", b, got)
		}
	}
}

// isRight tells right values as the chapter defines them.
func isRight(v api.Value) bool {
	return v.Kind == 0 && v.S == "" || v.Kind == 1 && v.N == 0 && len(v.S) <= 200 || v.Kind == 2 && (v.N == 0 || v.N == 1) && v.S == ""
}

// P3.2: a value is right if its kind exists, its content is in its range, and its other parts are empty.
func TestRightValues(t *testing.T) {
	all := ordered()
	for n := -3; n < 6; n++ {
		all = append(all, value.Zero(n), api.Value{Kind: api.VBool, N: n}, api.Value{Kind: api.VText, N: n}, api.Value{Kind: api.VInt, N: n})
	}
	for _, v := range all {
		if value.Right(v) != isRight(v) || value.RightRow([]api.Value{v}) != isRight(v) {
			t.Errorf("%d %d %q: %v, the row %v", v.Kind, v.N, v.S, value.Right(v), value.RightRow([]api.Value{v}))
		}
	}
}

// P3.2: a text has at most 200 bytes, whatever they are.
func TestRightTexts(t *testing.T) {
	for _, unit := range []string{"x", "\x00", "\xff", "\"", "\n", "\u00e9"} {
		most := 200 / len(unit)
		if !value.Right(value.Text(strings.Repeat(unit, most))) || value.Right(value.Text(strings.Repeat(unit, most)+"y")) || value.Right(value.Text(strings.Repeat(unit, 2*most))) {
			t.Errorf("texts of %q", unit)
		}
	}
}

// P3.2: a row has at most 12 values, all of them right; then its encoding has at most 4000 bytes.
func TestRightRows(t *testing.T) {
	for _, v := range []api.Value{value.Int(math.MinInt), value.Text(strings.Repeat("\xff", 200)), value.Bool(true)} {
		for n := range 16 {
			r := slices.Repeat([]api.Value{v}, n)
			if value.RightRow(r) != (n <= 12) {
				t.Error(n, "values", value.RightRow(r))
			}
			if n <= 12 && len(value.RowBytes(r)) > 4000 {
				t.Error(n, "values with", len(value.RowBytes(r)), "bytes")
			}
		}
	}
	if !value.RightRow(nil) || !value.RightRow([]api.Value{}) {
		t.Error("the empty row")
	}
	for n := range 12 {
		for _, wrong := range []api.Value{value.Zero(-1), value.Zero(api.VKinds), {Kind: api.VBool, N: 2}, {Kind: api.VInt, S: "a"}, {Kind: api.VText, N: 1}, value.Text(strings.Repeat("x", 201))} {
			r := slices.Repeat([]api.Value{value.Int(1)}, 12)
			r[n] = wrong
			if value.RightRow(r) || value.RightRow(r[:n+1]) || !value.RightRow(r[:n]) {
				t.Error("a wrong value at", n, wrong.Kind)
			}
		}
	}
}

// P3.3, P3.7: values are ordered by their kinds, then their numbers, then the bytes of their texts; two of them are equal exactly if their encodings are.
func TestOrderOfValues(t *testing.T) {
	all := ordered()
	encodings := make([]string, len(all))
	for i, v := range all {
		encodings[i] = value.Bytes(v)
	}
	for i, a := range all {
		for k, b := range all {
			got := value.Compare(a, b)
			if got != cmp.Compare(i, k) || (got == 0) != (encodings[i] == encodings[k]) {
				t.Fatalf("%q and %q: %d", encodings[i], encodings[k], got)
			}
		}
	}
}

// P3.3: the examples of the chapter, and what each part counts.
func TestCompareExamples(t *testing.T) {
	for _, c := range []struct {
		a, b api.Value
		want int
	}{
		{value.Int(5), value.Text("a"), -1}, {value.Int(math.MaxInt), value.Text(""), -1}, {value.Text("\xff"), value.Bool(false), -1},
		{value.Int(math.MinInt), value.Int(math.MaxInt), -1}, {value.Int(9), value.Int(10), -1}, {value.Int(-1), value.Int(0), -1},
		{value.Text("10"), value.Text("9"), -1}, {value.Text("a"), value.Text("aa"), -1}, {value.Text("Z"), value.Text("a"), -1}, {value.Text("\x7f"), value.Text("\x80"), -1},
		{api.Value{Kind: 1, N: 0, S: "b"}, api.Value{Kind: 1, N: 1, S: "a"}, -1}, {api.Value{Kind: 0, N: 1, S: "b"}, api.Value{Kind: 1, N: 0, S: "a"}, -1},
		{value.Bool(false), value.Bool(true), -1}, {value.Bool(true), value.Bool(true), 0}, {value.Text("a"), value.Text("a"), 0}, {value.Zero(7), value.Zero(7), 0},
	} {
		if value.Compare(c.a, c.b) != c.want || value.Compare(c.b, c.a) != -c.want {
			t.Errorf("%q and %q: %d", value.Bytes(c.a), value.Bytes(c.b), value.Compare(c.a, c.b))
		}
	}
	one, two := []api.Value{value.Int(1)}, []api.Value{value.Int(1), value.Int(2)}
	if value.CompareRows(one, two) != -1 || value.CompareRows(two, one) != 1 || value.CompareRows(one, two[:1]) != 0 {
		t.Error("(1) and (1, 2)")
	}
}

// byDefinition compares rows as the chapter says.
func byDefinition(a, b []api.Value) int {
	for i := 0; i < len(a) && i < len(b); i++ {
		if a[i].Kind != b[i].Kind || a[i].N != b[i].N || a[i].S != b[i].S {
			return value.Compare(a[i], b[i])
		}
	}
	return cmp.Compare(len(a), len(b))
}

// P3.3, P3.7: rows are ordered by the first values that differ, or else by their lengths; they are equal exactly if their encodings are.
func TestOrderOfRows(t *testing.T) {
	all := rows(few(), 3)
	for _, a := range all {
		for _, b := range all {
			got := value.CompareRows(a, b)
			if got != byDefinition(a, b) || got != -value.CompareRows(b, a) || value.SameRows(a, b) != (got == 0) {
				t.Fatalf("%q and %q: %d, %v", value.RowBytes(a), value.RowBytes(b), got, value.SameRows(a, b))
			}
		}
	}
	encodings := map[string]bool{}
	for _, r := range all {
		encodings[value.RowBytes(r)] = true
	}
	if len(encodings) != len(all) {
		t.Error(len(encodings), "encodings of", len(all), "rows")
	}
	if value.CompareRows(nil, []api.Value{}) != 0 || !value.SameRows([]api.Value{}, nil) || value.CompareRows(nil, all[1]) != -1 || value.CompareRows(all[1], nil) != 1 {
		t.Error("the empty row")
	}
}

// P3.7: sorting gives one order, from whichever one it begins.
func TestOrderIsTotal(t *testing.T) {
	want := rows(few(), 2)
	slices.SortFunc(want, value.CompareRows)
	for i := range len(want) - 1 {
		for _, later := range want[i+1:] {
			if value.CompareRows(want[i], later) != -1 {
				t.Fatalf("%q after %q", value.RowBytes(want[i]), value.RowBytes(later))
			}
		}
	}
	for i := range want {
		got := slices.Concat(want[i:], want[:i])
		slices.SortFunc(got, value.CompareRows)
		if !slices.EqualFunc(got, want, value.SameRows) {
			t.Fatal("another order from", i)
		}
	}
}

// P3.7: what follows the first difference does not count.
func TestFirstDifference(t *testing.T) {
	tails := rows([]api.Value{value.Int(math.MinInt), value.Bool(true), value.Zero(9)}, 2)
	for _, begin := range rows(few()[:2], 2) {
		for i, a := range few() {
			for k, b := range few() {
				for _, s := range tails {
					for _, u := range tails {
						got := value.CompareRows(slices.Concat(begin, []api.Value{a}, s), slices.Concat(begin, []api.Value{b}, u))
						if i != k && got != cmp.Compare(i, k) {
							t.Fatalf("%q and %q, followed by %q and %q: %d", value.Bytes(a), value.Bytes(b), value.RowBytes(s), value.RowBytes(u), got)
						}
					}
				}
			}
		}
	}
}

// P3.6: rows that are passed stay as they are, also beyond their length.
func TestArguments(t *testing.T) {
	r, s := few(), few()
	for _, f := range []func(){
		func() { value.RightRow(r[:3]) },
		func() { value.CompareRows(r[:3], s[:2]) },
		func() { value.SameRows(r[:2], s[:2]) },
		func() { value.RowBytes(r[:3]) },
		func() { value.ShowRow(r[:3]) },
	} {
		f()
		if !slices.Equal(r, few()) || !slices.Equal(s, few()) {
			t.Fatal("changed to", r, s)
		}
	}
	if value.CompareRows(r[:2], s) != -1 || !value.SameRows(r[:2], s[:2]) || value.RowBytes(r[:1]) != "1;0;-1;0:," || value.ShowRow(r[:1]) != "(-1)" {
		t.Error("values beyond the length of a row were read")
	}
}

// P3.6: rows that are read are new ones each time.
func TestFreshRows(t *testing.T) {
	want := []api.Value{value.Int(1), value.Text("a"), value.Bool(true)}
	for name, read := range map[string]func() ([]api.Value, bool){
		"ReadRow":  func() ([]api.Value, bool) { return value.ReadRow(value.RowBytes(want)) },
		"ParseRow": func() ([]api.Value, bool) { return value.ParseRow(value.ShowRow(want)) },
	} {
		first, _ := read()
		second, _ := read()
		first[0] = value.Int(9)
		_ = append(first[:1], value.Int(8), value.Int(7), value.Int(6))
		third, _ := read()
		if !slices.Equal(second, want) || !slices.Equal(third, want) {
			t.Error(name, second, third)
		}
	}
}

// P3.6: a second call returns what the first did, whatever came between.
func TestPure(t *testing.T) {
	all := func() []string {
		var results []string
		for _, v := range ordered() {
			read, ok := value.Read(value.Bytes(v))
			parsed, shown := value.Parse(value.Show(v))
			results = append(results, value.Bytes(v), value.Show(v), value.Bytes(read), value.Bytes(parsed), value.Show(value.Bool(ok == shown)))
		}
		for _, r := range rows(few(), 2) {
			read, ok := value.ReadRow(value.RowBytes(r))
			parsed, shown := value.ParseRow(value.ShowRow(r))
			results = append(results, value.RowBytes(r), value.ShowRow(r), value.RowBytes(read), value.RowBytes(parsed), value.Show(value.Bool(ok == shown)))
		}
		return results
	}
	if !slices.Equal(all(), all()) {
		t.Error("two calls with the same arguments differ")
	}
}
