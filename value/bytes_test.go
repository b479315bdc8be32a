package value_test

import (
	"math"
	"slices"
	"strings"
	"testing"

	"errata/api"
	"errata/value"
)

// P3.4: encodings of right and of wrong values.
func TestBytes(t *testing.T) {
	for _, c := range []struct {
		v api.Value
		s string
	}{
		{value.Int(0), "0;0;0:,"}, {value.Int(-3), "0;-3;0:,"}, {value.Text(""), "1;0;0:,"}, {value.Text("a,b"), "1;0;3:a,b,"}, {value.Bool(true), "2;1;0:,"},
		{api.Value{Kind: -1, N: 7, S: "x"}, "-1;7;1:x,"}, {value.Zero(3), "3;0;0:,"}, {api.Value{Kind: api.VInt, N: 1, S: "y"}, "0;1;1:y,"}, {api.Value{Kind: api.VBool, N: 2}, "2;2;0:,"},
		{value.Int(math.MaxInt), "0;9223372036854775807;0:,"}, {value.Zero(math.MinInt), "-9223372036854775808;0;0:,"},
		{value.Text("\u00e9\x00"), "1;0;3:\u00e9\x00,"}, {value.Text(strings.Repeat("z", 201)), "1;0;201:" + strings.Repeat("z", 201) + ","},
	} {
		if got := value.Bytes(c.v); got != c.s {
			t.Errorf("Bytes: %q, not %q", got, c.s)
		}
		if got, ok := value.Read(c.s); !ok || got != c.v {
			t.Errorf("Read(%q) = %v, %v", c.s, got, ok)
		}
		if got := value.RowBytes([]api.Value{c.v, c.v}); got != "2;"+c.s+c.s {
			t.Errorf("RowBytes: %q", got)
		}
	}
	if value.RowBytes(nil) != "0;" || value.RowBytes([]api.Value{}) != "0;" {
		t.Error("the empty row", value.RowBytes(nil))
	}
	if got := value.RowBytes([]api.Value{value.Int(1), value.Text("a"), value.Bool(false)}); got != "3;0;1;0:,1;0;1:a,2;0;0:," {
		t.Error(got)
	}
}

// P3.8: Read and ReadRow invert Bytes and RowBytes, for values that are not right and rows that are too long, too.
func TestReadInverts(t *testing.T) {
	for _, v := range ordered() {
		if got, ok := value.Read(value.Bytes(v)); !ok || got != v {
			t.Fatalf("%q becomes %v, %v", value.Bytes(v), got, ok)
		}
	}
	all := append(rows(few(), 3), ordered(), slices.Repeat([]api.Value{value.Text("1;0;0:,")}, 1000))
	for _, r := range all {
		if got, ok := value.ReadRow(value.RowBytes(r)); !ok || !slices.Equal(got, r) {
			t.Fatalf("%q becomes %v, %v", value.RowBytes(r), got, ok)
		}
	}
}

// P3.4: what is no encoding of a value is refused with a zero value.
func TestReadRefuses(t *testing.T) {
	for _, s := range []string{
		"", "0", "0;", "0;0;", "0;0;0:", "0;0;0", ";0;0:,", "0;;0:,", "0;0;:,", "0;0;,", "0;0;1:,", "0;0;0:a,", "0;0;2:a,", "0;0;-1:,", "0;0;01:a,",
		"0;0;0:,0", "0;0;0:,,", "0;0;0:,\n", " 0;0;0:,", "0; 0;0:,", "0;0;0:,0;0;0:,", "00;0;0:,", "0;00;0:,", "-0;0;0:,", "0;-0;0:,", "+1;0;0:,", "0;+1;0:,",
		"9223372036854775808;0;0:,", "0;-9223372036854775809;0:,", "0;0;9223372036854775808:,", "0;0;9223372036854775807:a,", "1;0;0:,;", "0:,0;0;", "1;0;1:a", "1[0;0;0:,]",
	} {
		if got, ok := value.Read(s); ok || got != (api.Value{}) {
			t.Errorf("Read(%q) = %v, %v", s, got, ok)
		}
	}
}

// P3.4: what is no encoding of a row is refused with no row.
func TestReadRowRefuses(t *testing.T) {
	for _, s := range []string{
		"", "0", ";", "1;", "2;", "-1;", "-0;", "00;", "+0;", "0;0", "0;0;", "0;;", "0;0;0:,", "0;0;0;0:,", "1;0;0;0:", "1;0;0;0:,0", "1;0;0;0:,0;0;0:,", "2;0;0;0:,", "2;0;0;0:,0;0;0:", "01;0;0;0:,", "-1;0;0;0:,", "0[]", "1[0;0;0:,]",
		"1;0;0;0:,,", "1;00;0;0:,", "1;0;-0;0:,", "1;0;0;1:,", "2;0;0;0:,x0;0;0:,", "2;0;0;0:,0;0;0:a,", "9223372036854775807;", "9223372036854775807;0;0;0:,", "9223372036854775808;0;0;0:,",
	} {
		if got, ok := value.ReadRow(s); ok || len(got) != 0 {
			t.Errorf("ReadRow(%q) = %v, %v", s, got, ok)
		}
	}
}

// each calls the function with all strings of at most n signs of an alphabet.
func each(signs string, n int, f func(string)) {
	var grow func(s []byte)
	grow = func(s []byte) {
		f(string(s))
		if len(s) == n {
			return
		}
		for i := range len(signs) {
			grow(append(s, signs[i]))
		}
	}
	grow(make([]byte, 0, n))
}

// P3.8: of all short strings exactly those are accepted that Bytes returns.
func TestReadExactly(t *testing.T) {
	known := map[string]api.Value{}
	for _, kind := range []int{0, 1, 10, 11, -1} {
		for _, n := range []int{0, 1, 10, 11, -1} {
			for _, s := range []string{"", "0", "1", "-", ";", ":", ","} {
				v := api.Value{Kind: kind, N: n, S: s}
				known[value.Bytes(v)] = v
			}
		}
	}
	accepted := 0
	each("01-;:,", 8, func(s string) {
		got, ok := value.Read(s)
		want, is := known[s]
		if ok != is || got != want {
			t.Fatalf("Read(%q) = %v, %v", s, got, ok)
		}
		if ok {
			accepted++
		}
	})
	// With 7 bytes: two kinds, two numbers; with 8 bytes also one of both with two bytes, or a text of one byte.
	if accepted != 4+2*3*2+4*6 {
		t.Error("accepted", accepted)
	}
}

// P3.8: of encodings that are put together from parts exactly those are accepted that RowBytes returns.
func TestReadRowExactly(t *testing.T) {
	known := map[string]bool{}
	values := []api.Value{value.Int(0), value.Text("0;"), {Kind: -1, N: 1, S: ","}}
	for _, r := range rows(values, 4) {
		known[value.RowBytes(r)] = true
	}
	var parts []string
	for _, v := range values {
		parts = append(parts, value.Bytes(v))
	}
	parts = append(parts, "0;", ",", "0;0;", "0:,")
	var grow func(s string, n int)
	grow = func(s string, n int) {
		got, ok := value.ReadRow(s)
		if ok != known[s] || ok && value.RowBytes(got) != s || !ok && len(got) != 0 {
			t.Fatalf("ReadRow(%q) = %v, %v", s, got, ok)
		}
		for i := 0; i < len(parts) && n > 0; i++ {
			grow(s+parts[i], n-1)
		}
	}
	for _, number := range []string{"", "0;", "1;", "2;", "3;", "4;", "02;", "-2;", "2", ";"} {
		grow(number, 4)
	}
}

// altered returns the strings that differ from s in one byte: another one of the signs, one more, or one less.
func altered(s, signs string) []string {
	var l []string
	for i := range len(s) {
		l = append(l, s[:i]+s[i+1:])
		for j := range len(signs) {
			l = append(l, s[:i]+signs[j:j+1]+s[i+1:], s[:i]+signs[j:j+1]+s[i:])
		}
	}
	return l
}

// P3.8: an encoding that is altered in one byte is refused, or it is that of what is read.
func TestReadAltered(t *testing.T) {
	r := []api.Value{value.Int(-10), value.Text("0;1:a,"), value.Bool(true), {Kind: 10, N: 100, S: "11"}}
	for _, s := range altered(value.RowBytes(r), "01-;:,a") {
		got, ok := value.ReadRow(s)
		if ok && value.RowBytes(got) != s || !ok && len(got) != 0 {
			t.Errorf("ReadRow(%q) = %v, %v", s, got, ok)
		}
	}
	for _, v := range r {
		for _, s := range altered(value.Bytes(v), "01-;:,a") {
			got, ok := value.Read(s)
			if ok && value.Bytes(got) != s || !ok && got != (api.Value{}) {
				t.Errorf("Read(%q) = %v, %v", s, got, ok)
			}
		}
	}
}
