package replica_test

import (
	"strconv"
	"strings"
	"testing"

	"errata/api"
	"errata/replica"
)

// messages returns messages with all kinds of fields, and their encodings.
func messages() map[string]api.Msg {
	most, low := strconv.Itoa(huge)+";", strconv.Itoa(least)+";"
	return map[string]api.Msg{
		"0;0;0;0;0;0;0;0;0;":                                {},
		"1;2;0;7;0;0;0;1;0;":                                {Kind: api.MgVoted, From: 2, Term: 7, Yes: true},
		"1;2;3;4;5;6;7;0;0;":                                {Kind: 1, From: 2, To: 3, Term: 4, Index: 5, Prev: 6, Commit: 7},
		"2;1;0;7;12;3;9;1;2;3;3:a,b,-1;0:,":                 {Kind: 2, From: 1, Term: 7, Index: 12, Prev: 3, Commit: 9, Yes: true, Recs: []api.Rec{{Term: 3, Data: "a,b"}, {Term: -1}}},
		"0;0;0;0;0;0;0;0;1;0;0:,":                           {Recs: []api.Rec{{}}},
		"-1;-2;-3;-4;-5;-6;-70;0;1;5;4:\x00\xff1;,":         {Kind: -1, From: -2, To: -3, Term: -4, Index: -5, Prev: -6, Commit: -70, Recs: []api.Rec{{Term: 5, Data: "\x00\xff1;"}}},
		strings.Repeat(most, 7) + "1;1;" + low + "1:z,":     {Kind: huge, From: huge, To: huge, Term: huge, Index: huge, Prev: huge, Commit: huge, Yes: true, Recs: []api.Rec{{Term: least, Data: "z"}}},
		strings.Repeat(low, 7) + "0;1;" + most + "1:,,":     {Kind: least, From: least, To: least, Term: least, Index: least, Prev: least, Commit: least, Recs: []api.Rec{{Term: huge, Data: ","}}},
		"3;0;1;2;3;0;0;0;12;" + strings.Repeat("1;0:,", 12): {Kind: 3, To: 1, Term: 2, Index: 3, Recs: make12()},
	}
}

// make12 returns more entries than a message that is right can have.
func make12() []api.Rec {
	l := make([]api.Rec, 12)
	for i := range l {
		l[i].Term = 1
	}
	return l
}

// P8.5: messages are written as the chapter says, and read back, whether they are right or not.
func TestBytes(t *testing.T) {
	for s, m := range messages() {
		if got := replica.Bytes(m); got != s {
			t.Errorf("%v is written as %q, not %q", m, got, s)
		}
		if got, ok := replica.Read(s); !ok || !sameMsg(got, m) {
			t.Errorf("%q is read as %v, %v", s, got, ok)
		}
	}
	for _, m := range right() {
		if got, ok := replica.Read(replica.Bytes(m)); !ok || !sameMsg(got, m) {
			t.Errorf("%.200v is read as %.200v, %v", m, got, ok)
		}
	}
}

// zero reports whether a message is a zero one.
func zero(m api.Msg) bool { return m.Recs == nil && sameMsg(m, api.Msg{}) }

// refused checks that a string is not read as a message.
func refused(t *testing.T, s string) {
	t.Helper()
	if m, ok := replica.Read(s); ok || !zero(m) {
		t.Errorf("%q is read as %v, %v", s, m, ok)
	}
}

// P8.5: what is no encoding of a message.
func TestReadWrong(t *testing.T) {
	for s := range messages() {
		for i := range len(s) {
			refused(t, s[:i])
			refused(t, s[i+1:]+"x")
		}
		for _, more := range []string{"0;", ";", ",", " ", "\x00", "1;0:,", "0:,"} {
			refused(t, s+more)
		}
	}
	seven := "0;0;0;0;0;0;0;"
	for _, yes := range []string{"2;", "-1;", "-2;", "3;", "256;", "9223372036854775807;", "01;", "00;", "+1;", "-0;", ";", "t;", "1", "9223372036854775808;"} {
		refused(t, seven+yes+"0;")
		refused(t, seven+yes+"1;0;0:,")
	}
	for _, count := range []string{"-1;", "1;", "3;", "02;", "+2;", "256;", "9223372036854775807;", "9223372036854775808;", "18446744073709551618;", ";", "2", "2[", "2:"} {
		refused(t, seven+"0;"+count+"1;0:,2;1:x,")
	}
	for _, count := range []string{"1;", "-1;", "9223372036854775807;", "-9223372036854775808;"} {
		refused(t, seven+"0;"+count)
	}
	for i := range 7 {
		for _, n := range []string{"01;", "+1;", "-0;", ";", "x;", "1:", " 1;", "0:,", "1.0;", "9223372036854775808;", "-9223372036854775809;"} {
			refused(t, strings.Repeat("0;", i)+n+strings.Repeat("0;", 6-i)+"0;0;")
		}
	}
	for _, recs := range []string{"1;0:", "1;", ";0:,", "1;1:,", "1;0:;", "1;2:x,", "01;0:,", "1;00:,", "-0;0:,", "1;-1:,", "1;-1:x,", "1;0;"} {
		refused(t, seven+"0;1;"+recs)
		refused(t, seven+"0;2;0;0:,"+recs)
	}
}

// P8.5: no string is read but the one that a message is written as.
func TestReadOnly(t *testing.T) {
	signs := []string{"", "0", "1", "2", "-", ";", ":", ",", "a", "[", "\x00"}
	for s := range messages() {
		for i := range len(s) {
			for _, sign := range signs {
				for _, changed := range []string{s[:i] + sign + s[i:], s[:i] + sign + s[i+1:]} {
					if m, ok := replica.Read(changed); ok && replica.Bytes(m) != changed || !ok && !zero(m) {
						t.Errorf("%q is read as %v, %v", changed, m, ok)
					}
				}
			}
		}
	}
}

// P8.5: entries are written as the chapter says, and read back.
func TestRecBytes(t *testing.T) {
	for s, x := range map[string]api.Rec{
		"0;0:,":                          {},
		"3;3:a,b,":                       {Term: 3, Data: "a,b"},
		"-12;1:;,":                       {Term: -12, Data: ";"},
		"1099511627776;2:\x00\xff,":      {Term: replica.MaxTerm, Data: "\x00\xff"},
		strconv.Itoa(huge) + ";5:1;0:,,": {Term: huge, Data: "1;0:,"},
		strconv.Itoa(least) + ";0:,":     {Term: least},
		"1;3000:" + strings.Repeat("x", 3000) + ",": {Term: 1, Data: strings.Repeat("x", 3000)},
	} {
		if got := replica.RecBytes(x); got != s {
			t.Errorf("%v is written as %q, not %q", x, got, s)
		}
		if got, ok := replica.ReadRec(s); !ok || got != x {
			t.Errorf("%q is read as %v, %v", s, got, ok)
		}
		for i := range min(len(s), 30) {
			if got, ok := replica.ReadRec(s[:i]); ok || got != (api.Rec{}) {
				t.Errorf("%q is read as %v, %v", s[:i], got, ok)
			}
		}
		for _, more := range []string{"0", ",", ";", s} {
			if got, ok := replica.ReadRec(s + more); ok || got != (api.Rec{}) {
				t.Errorf("%q is read as %v, %v", s+more, got, ok)
			}
		}
	}
}

// P8.5: of all strings of up to six of these signs, those are read that are an encoding: five ints of up to two signs with an empty text, and two digits with a text of one sign.
func TestShortRecs(t *testing.T) {
	const signs = "01-;:,a"
	count := 0
	var walk func(s string)
	walk = func(s string) {
		x, ok := replica.ReadRec(s)
		switch {
		case ok && replica.RecBytes(x) != s:
			t.Errorf("%q is read as %v", s, x)
		case ok:
			count++
		case x != (api.Rec{}):
			t.Errorf("%q gives %v, although it is not read", s, x)
		}
		for i := 0; i < len(signs) && len(s) < 6; i++ {
			walk(s + signs[i:i+1])
		}
	}
	walk("")
	if count != 5+2*len(signs) {
		t.Errorf("%d strings are read", count)
	}
}
