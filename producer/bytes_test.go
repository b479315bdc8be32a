package producer_test

import (
	"strconv"
	"strings"
	"testing"

	"errata/api"
	"errata/producer"
)

// encodings returns right tables with their encodings.
func encodings() map[string][]api.Producer {
	most := strconv.Itoa(top)
	return map[string][]api.Producer{
		"0;":                       nil,
		"1;0;0;0;0[]":              {{}},
		"1;7;3;2;2[4;9;]":          {{Id: 7, Epoch: 3, Next: 2, Last: []int{4, 9}}},
		"2;0;0;1;1[0;]12;10;0;0[]": {{Next: 1, Last: []int{0}}, {Id: 12, Epoch: 10}},
		"1;" + most + ";" + most + ";1;1[" + most + ";]":                                                {{Id: top, Epoch: top, Next: 1, Last: []int{top}}},
		"1;5;2;25;20[205;206;207;208;209;210;211;212;213;214;215;216;217;218;219;220;221;222;223;224;]": one(),
	}
}

// P10.5: tables are written as the chapter says, and read back.
func TestBytes(t *testing.T) {
	for s, table := range encodings() {
		if got := producer.Bytes(table); got != s {
			t.Errorf("%v is written as %q, not %q", table, got, s)
		}
		if got, ok := producer.Read(s); !ok || show(got) != show(table) {
			t.Errorf("%q is read as %v, %v", s, got, ok)
		}
	}
	if producer.Bytes([]api.Producer{}) != "0;" || producer.Bytes([]api.Producer{{Last: []int{}}}) != "1;0;0;0;0[]" {
		t.Error("empty lists are not written as nil ones")
	}
	for _, table := range rightTables() {
		if got, ok := producer.Read(producer.Bytes(table)); !ok || show(got) != show(table) {
			t.Errorf("%.300v is read as %.300v, %v", table, got, ok)
		}
	}
}

// refused checks that a string is not read as a table.
func refused(t *testing.T, s string) {
	t.Helper()
	if got, ok := producer.Read(s); ok || len(got) != 0 {
		t.Errorf("%.300q is read as %.300v, %v", s, got, ok)
	}
}

// encoded writes a table that need not be right.
func encoded(s []api.Producer) string {
	text := strconv.Itoa(len(s)) + ";"
	for _, p := range s {
		for _, n := range []int{p.Id, p.Epoch, p.Next} {
			text += strconv.Itoa(n) + ";"
		}
		text += strconv.Itoa(len(p.Last)) + "["
		for _, n := range p.Last {
			text += strconv.Itoa(n) + ";"
		}
		text += "]"
	}
	return text
}

// P10.5: the encodings of tables that are not right are refused.
func TestReadWrongTables(t *testing.T) {
	for _, table := range wrongTables() {
		refused(t, encoded(table))
	}
}

// P10.5: what is no encoding of a table is refused.
func TestReadWrong(t *testing.T) {
	for s := range encodings() {
		for i := range len(s) {
			refused(t, s[:i])
			refused(t, s[i+1:]+"x")
		}
		for _, more := range []string{"0;", ";", ",", " ", "]", "\x00", "100;0;0;0[]", "0[]"} {
			refused(t, s+more)
		}
	}
	for _, count := range []string{"", "-1;", "0;", "2;", "3;", "01;", "+1;", "257;", "18446744073709551617;", "9223372036854775807;", "-9223372036854775808;", "1", "1[", "1:", ";", "x;"} {
		refused(t, count+"7;3;2;2[4;9;]")
	}
	for _, n := range []string{"-1;", "-0;", "01;", "+1;", ";", "x;", " 1;", "1 ;", "1:", "1,", "1.0;", "0[]", "9223372036854775807;", "9223372036854775808;", "18446744073709551616;", "1099511627777;"} {
		refused(t, "1;"+n+"3;2;2[4;9;]")
		refused(t, "1;7;"+n+"2;2[4;9;]")
		refused(t, "1;7;3;"+n+"2[4;9;]")
		refused(t, "1;7;3;2;2[4;"+n+"]")
	}
	for _, l := range []string{"", "0[]", "1[4;]", "3[4;9;10;]", "2[9;4;]", "2[4;4;]", "2[4;9;", "2[4;9]", "3[4;9;]", "1[4;9;]", "2[4;9;;]", "02[4;9;]", "-2[4;9;]", "2(4;9;)", "9223372036854775807[4;9;]", "2;4;9;"} {
		refused(t, "1;7;3;2;"+l)
	}
	refused(t, "2;7;3;2;2[4;9;]")
	refused(t, "2;7;3;2;2[4;9;]7;3;2;2[4;9;]")
	refused(t, "9223372036854775807;")
	refused(t, "1000000;"+strings.Repeat("0;0;0;0[]", 1000))
}

// P10.5: of all strings that differ from an encoding in one byte, those are read that are an encoding of what is read.
func TestReadChanged(t *testing.T) {
	for s := range encodings() {
		for i := range len(s) {
			for c := range 256 {
				changed := s[:i] + string([]byte{byte(c)}) + s[i+1:]
				got, ok := producer.Read(changed)
				if ok && (!producer.Right(got) || encoded(got) != changed) || !ok && len(got) != 0 {
					t.Errorf("%q is read as %v, %v", changed, got, ok)
				}
			}
		}
	}
}
