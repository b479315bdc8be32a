package journal_test

import (
	"math"
	"slices"
	"strings"
	"testing"

	"errata/api"
	"errata/cell"
	"errata/disk"
	"errata/journal"
)

const huge, least = math.MaxInt, math.MinInt

func ok(t *testing.T, e api.Errno) {
	t.Helper()
	if e != api.OK {
		t.Fatalf("the call returns %d", e)
	}
}

// content returns the bytes of a file.
func content(t *testing.T, d *disk.Disk, f int) string {
	t.Helper()
	s, e := d.Read(f, 0, huge)
	ok(t, e)
	return s
}

// holding returns a disk with a log in the file base, and a value in the cell after it, or none if it is "none".
func holding(t *testing.T, base int, log, value string) *disk.Disk {
	t.Helper()
	d := disk.New()
	ok(t, d.Write(base, 0, log))
	ok(t, d.Sync(base))
	if value != "none" {
		c, e := cell.Open(d, base+1)
		ok(t, e)
		ok(t, c.Set(value))
	}
	return d
}

func open(t *testing.T, d *disk.Disk, base int) *journal.Journal {
	t.Helper()
	j, e := journal.Open(d, base)
	if j == nil || e != api.OK {
		t.Fatalf("Open returns %v, %d", j, e)
	}
	return j
}

// has checks the list of a journal.
func has(t *testing.T, j *journal.Journal, want ...string) {
	t.Helper()
	if got := j.All(); !slices.Equal(got, want) {
		t.Errorf("the list is %.200q, not %.200q", got, want)
	}
	if j.Len() != len(want) {
		t.Errorf("%d strings, not %d", j.Len(), len(want))
	}
	for i, s := range want {
		if j.Get(i) != s {
			t.Errorf("the string %d is %.50q, not %.50q", i, j.Get(i), s)
		}
	}
}

// noted checks the log and the value of the cell after it.
func noted(t *testing.T, d *disk.Disk, base int, log, value string) {
	t.Helper()
	if got := content(t, d, base); got != log {
		t.Errorf("the log is %.100q (%d bytes), not %.100q (%d bytes)", got, len(got), log, len(log))
	}
	c, e := cell.Open(d, base+1)
	ok(t, e)
	if got, there := c.Get(); got != value || !there {
		t.Errorf("the cell has %q, %v, not %q", got, there, value)
	}
}

// P6.1: bases that are no bases, before anything else, and a machine that is down.
func TestOpenErrors(t *testing.T) {
	d := disk.New()
	bases := []int{-1, 15, 16, 1 << 32, huge, least}
	for _, base := range bases {
		d.Arm(1, nil)
		d.Lose(1)
		if j, e := journal.Open(d, base); j != nil || e != api.ErrArg {
			t.Errorf("the base %d: %v, %d", base, j, e)
		}
		d.Arm(0, nil)
		if d.Down() || d.Sync(0) != api.ErrLost {
			t.Errorf("the base %d: a call of the disk", base)
		}
	}
	for base := range 15 {
		has(t, open(t, d, base))
	}
	d.Crash(nil)
	for _, base := range bases {
		if j, e := journal.Open(d, base); j != nil || e != api.ErrArg {
			t.Errorf("the base %d of a machine that is down: %v, %d", base, j, e)
		}
	}
	for base := range 15 {
		if j, e := journal.Open(d, base); j != nil || e != api.ErrDown {
			t.Errorf("the base %d of a machine that is down: %v, %d", base, j, e)
		}
	}
}

// P6.1: what is a journal.
func TestOpenList(t *testing.T) {
	long := strings.Repeat("x", 1<<20)
	for _, c := range []struct {
		log, value string
		want       []string
	}{
		{"", "none", nil}, {"", "0;0;", nil}, {"1:a,", "none", nil}, {"no form", "none", nil}, {"1:a,", "0;0;", nil}, {"no form", "0;0;", nil},
		{"1:a,", "4;1;", []string{"a"}}, {"1:a,rest", "4;1;", []string{"a"}}, {"1:a,1:b,", "4;1;", []string{"a"}}, {"1:a,1:b,", "8;2;", []string{"a", "b"}}, {"1:a,\x00\x00", "4;1;", []string{"a"}},
		{"0:,", "3;1;", []string{""}}, {"0:,0:,0:,", "9;3;", []string{"", "", ""}}, {"0:,0:,0:,", "6;2;", []string{"", ""}}, {"1:a,0:,", "7;2;", []string{"a", ""}},
		{"5:1:a,,,", "8;1;", []string{"1:a,,"}}, {"3:\x00\xff\n,10:0123456789,", "20;2;", []string{"\x00\xff\n", "0123456789"}},
		{"1048576:" + long + ",", "1048585;1;", []string{long}}, // more than could be appended
	} {
		d := holding(t, 4, c.log, c.value)
		has(t, open(t, d, 4), c.want...)
		if content(t, d, 4) != c.log {
			t.Errorf("%.20q: Open changes the log", c.log)
		}
	}
}

// P6.1: values of the cell that are no two numbers.
func TestOpenValue(t *testing.T) {
	for _, s := range []string{
		"", ";", "4", "4;", "4;1", ";1;", "4;;", "4;1;;", "4;1;0;", "4;1; ", " 4;1;", "4; 1;", "4:1;", "4,1,", "04;1;", "4;01;", "+4;1;", "4;+1;", "0x4;1;",
		"-4;1;", "4;-1;", "-0;0;", "0;-0;", "00;0;", "0;00;", "a;1;", "4;a;", "9223372036854775808;1;", "4;9223372036854775808;", "18446744073709551620;1;", "2[4;1;]", "4;1;1:a,", strings.Repeat("4", 65536),
	} {
		for _, log := range []string{"1:a,", ""} {
			if j, e := journal.Open(holding(t, 0, log, s), 0); j != nil || e != api.ErrForm {
				t.Errorf("%q with the value %.20q: %v, %d", log, s, j, e)
			}
		}
	}
}

// P6.1: logs that are not what the cell says.
func TestOpenForm(t *testing.T) {
	for _, c := range []struct{ log, value string }{
		{"1:a,", "4;0;"}, {"1:a,", "4;2;"}, {"1:a,1:b,", "8;1;"}, {"1:a,1:b,", "8;3;"}, {"1:a,1:b,", "4;2;"}, {"1:a,1:b,", "8;0;"}, {"", "0;1;"}, {"1:a,", "0;1;"}, {"0:,0:,", "6;1;"}, {"0:,0:,", "3;2;"}, // another number of strings
		{"1:a,", "5;1;"}, {"1:a,", "8;1;"}, {"1:a,", "8;2;"}, {"", "1;0;"}, {"", "4;1;"}, {"1:a,", "9223372036854775807;1;"}, {"", "9223372036854775807;0;"}, {"1:a,1:b,", "9;2;"}, // fewer bytes
		{"1:a,", "3;1;"}, {"1:a,", "1;1;"}, {"1:a,", "1;0;"}, {"1:a,1:b,", "7;2;"}, {"1:a,1:b,", "5;1;"}, {"1:a,1:b,", "7;1;"}, {"0:,0:,", "5;1;"}, {"0:,0:,", "4;2;"}, // bytes that end within a string
		{"01:a,", "5;1;"}, {"00:,", "4;1;"}, {"-0:,", "4;1;"}, {"+1:a,", "5;1;"}, {"-1:a,", "5;1;"}, {":,", "2;1;"}, {"1:a;", "4;1;"}, {"1;a,", "4;1;"}, {"2:a,", "4;1;"}, {"0:a,", "4;1;"}, {"1:a,x", "5;1;"}, {"1:a,x", "5;2;"}, {"x1:a,", "5;1;"}, {"4;1;", "4;1;"}, // no strings
		{"1:a,01:b,", "9;2;"}, {"1:a,1:b;", "8;2;"}, {"1:a,,", "5;1;"}, {"1:a, 1:b,", "9;2;"}, {"1[1:a,]", "7;1;"}, {"0[]", "3;0;"}, {"9223372036854775807:a,", "22;1;"}, {"9223372036854775808:a,", "22;1;"}, {"\x00\x00\x00\x00", "4;0;"}, {"\x00\x00\x00\x00", "4;1;"},
		{"0:,0:,", "6;9223372036854775807;"}, {"1:a,x", "5;9223372036854775807;"},
	} {
		d := holding(t, 7, c.log, c.value)
		if j, e := journal.Open(d, 7); j != nil || e != api.ErrForm {
			t.Errorf("%.20q with the value %.50q: %v, %d", c.log, c.value, j, e)
		}
		noted(t, d, 7, c.log, c.value)
	}
}

// P6.1: the errors of opening the cell.
func TestOpenCell(t *testing.T) {
	for _, s := range []string{"x", "\x03\x00\x00\x00\x00", "\x01\x04\x00\x00\x00", "\x01\x00", "\x02\xff\xff\xff\xff"} {
		d := disk.New()
		ok(t, d.Write(3, 0, s))
		if j, e := journal.Open(d, 2); j != nil || e != api.ErrForm {
			t.Errorf("%q: %v, %d", s, j, e)
		}
		has(t, open(t, d, 3), []string{}...)
	}
}

// P6.1: Open makes both files durable, and no other one, first the log; it stops at a sync that fails.
func TestOpenSyncs(t *testing.T) {
	for _, c := range []struct {
		arm, lose int
		want      api.Errno
		left      [3]string // what a crash leaves in the log, the cell and another file
	}{
		{want: api.OK, left: [3]string{"1:a,", "\x00cell", "+"}}, {arm: 3, want: api.OK, left: [3]string{"1:a,", "\x00cell", "+"}},
		{arm: 1, want: api.ErrDown, left: [3]string{"+", "+", "+"}}, {arm: 2, want: api.ErrDown, left: [3]string{"1:a,", "+", "+"}},
		{lose: 1, want: api.ErrLost, left: [3]string{"+", "+", "+"}}, {lose: 2, want: api.ErrLost, left: [3]string{"+", "+", "+"}}, {arm: 2, lose: 1, want: api.ErrLost, left: [3]string{"+", "+", "+"}},
	} {
		d := disk.New()
		for f := range 16 {
			ok(t, d.Write(f, 0, "+"))
			ok(t, d.Sync(f))
		}
		ok(t, d.Write(6, 0, "\x00cell"))
		ok(t, d.Write(5, 0, "1:a,"))
		ok(t, d.Write(4, 0, "other"))
		ok(t, d.Write(7, 0, "other"))
		d.Arm(c.arm, nil)
		d.Lose(c.lose)
		if j, e := journal.Open(d, 5); e != c.want || (j == nil) != (e != api.OK) {
			t.Errorf("%v: %v, %d", c, j, e)
		}
		d.Crash(nil)
		d.Start()
		if got := [3]string{content(t, d, 5), content(t, d, 6), content(t, d, 7)}; got != c.left || content(t, d, 4) != c.left[2] {
			t.Errorf("%v: %q", c, got)
		}
		for range c.lose - 1 {
			if d.Sync(0) != api.ErrLost {
				t.Errorf("%v: more than one sync", c)
			}
		}
		ok(t, d.Sync(0))
	}
}

// P6.2, P6.3: the files after each of several calls: what was cut off stays in the log until it is overwritten.
func TestBytes(t *testing.T) {
	d := disk.New()
	j := open(t, d, 14)
	long := strings.Repeat("y", 200)
	const none = -1
	for i, c := range []struct {
		cut        int
		add        []string
		log, value string
		list       []string
	}{
		{none, []string{"a", "bc"}, "1:a,2:bc,", "9;2;", []string{"a", "bc"}},
		{none, nil, "1:a,2:bc,", "9;2;", []string{"a", "bc"}},
		{none, []string{"d"}, "1:a,2:bc,1:d,", "13;3;", []string{"a", "bc", "d"}},
		{3, nil, "1:a,2:bc,1:d,", "13;3;", []string{"a", "bc", "d"}},
		{2, nil, "1:a,2:bc,1:d,", "9;2;", []string{"a", "bc"}},
		{1, nil, "1:a,2:bc,1:d,", "4;1;", []string{"a"}},
		{none, []string{"x"}, "1:a,1:x,,1:d,", "8;2;", []string{"a", "x"}},
		{none, []string{"", "\x00:"}, "1:a,1:x,0:,2:\x00:,", "16;4;", []string{"a", "x", "", "\x00:"}},
		{none, []string{long}, "1:a,1:x,0:,2:\x00:,200:" + long + ",", "221;5;", []string{"a", "x", "", "\x00:", long}},
		{2, nil, "1:a,1:x,0:,2:\x00:,200:" + long + ",", "8;2;", []string{"a", "x"}},
		{0, nil, "1:a,1:x,0:,2:\x00:,200:" + long + ",", "0;0;", nil},
		{0, nil, "1:a,1:x,0:,2:\x00:,200:" + long + ",", "0;0;", nil},
		{none, []string{"", ""}, "0:,0:,x,0:,2:\x00:,200:" + long + ",", "6;2;", []string{"", ""}},
	} {
		if c.cut == none {
			ok(t, j.Append(c.add))
		} else {
			ok(t, j.Cut(c.cut))
		}
		noted(t, d, 14, c.log, c.value)
		has(t, j, c.list...)
		has(t, open(t, d.Copy(), 14), c.list...)
		if t.Failed() {
			t.Fatalf("after the call %d", i)
		}
	}
	for f := range 14 {
		if d.Size(f) != 0 {
			t.Errorf("a journal with the base 14 changes the file %d", f)
		}
	}
}

// full checks that Append returns ErrFull, and makes no call of the disk.
func full(t *testing.T, d *disk.Disk, j *journal.Journal, l ...string) {
	t.Helper()
	d.Arm(1, nil)
	d.Lose(1)
	if e := j.Append(l); e != api.ErrFull {
		t.Errorf("Append returns %d", e)
	}
	d.Arm(0, nil)
	if d.Down() || d.Sync(15) != api.ErrLost {
		t.Error("a call of the disk")
	}
}

// P6.2: the form of the list may have Max bytes, and no more.
func TestFull(t *testing.T) {
	d := disk.New()
	j := open(t, d, 0)
	most := strings.Repeat("m", journal.Max-9) // 9 bytes of its form are its length, the colon and the comma
	full(t, d, j, most+"m")
	full(t, d, j, most, "")
	full(t, d, j, "", most)
	full(t, d, j, strings.Repeat("m", journal.Max))
	full(t, d, j, strings.Repeat("m", 1<<24), "")
	full(t, d, j, slices.Repeat([]string{""}, journal.Max/3+1)...)
	full(t, d, j, slices.Repeat([]string{strings.Repeat("m", 1<<20)}, 1<<14)...) // the bytes of the list alone would be 2^34
	has(t, j)
	ok(t, j.Append([]string{most}))
	has(t, j, most)
	has(t, open(t, d.Copy(), 0), most)
	full(t, d, j, "")
	ok(t, j.Append(nil))
	full(t, d, j, "a", "b")
	ok(t, j.Cut(1))
	full(t, d, j, "")
	ok(t, j.Cut(0))
	ok(t, j.Append([]string{"abc", most[9:]}))
	ok(t, j.Append([]string{""}))
	full(t, d, j, "")
	has(t, j, "abc", most[9:], "")
	ok(t, j.Cut(2))
	full(t, d, j, "d")
	ok(t, j.Append([]string{""}))
	d.Crash(nil)
	if e := j.Append([]string{""}); e != api.ErrFull {
		t.Errorf("while the machine is down: %d", e)
	}
	if e := j.Cut(2); e != api.ErrDown {
		t.Errorf("ErrFull is an error of the disk: %d", e)
	}
	if e := j.Append([]string{""}); e != api.ErrState {
		t.Errorf("after an error of the disk: %d", e)
	}
}

// P6.1, P6.2: a log that is longer than a list to which strings are appended can be.
func TestLonger(t *testing.T) {
	long := strings.Repeat("x", journal.Max)
	d := holding(t, 0, "1:a,1048576:"+long+",1:b,", "1048593;3;")
	j := open(t, d, 0)
	has(t, j, "a", long, "b")
	full(t, d, j, "")
	ok(t, j.Append(nil))
	ok(t, j.Cut(2))
	full(t, d, j, "")
	ok(t, j.Cut(1))
	ok(t, j.Append([]string{"c"}))
	has(t, open(t, d, 0), "a", "c")
}

// P6.2: many strings, one by one and at once.
func TestMany(t *testing.T) {
	d := disk.New()
	j := open(t, d, 0)
	l := slices.Repeat([]string{"", "a", "bc"}, 3000)
	ok(t, j.Append(l))
	for i := range 50 {
		ok(t, j.Append([]string{strings.Repeat("z", i)}))
		l = append(l, strings.Repeat("z", i))
	}
	has(t, j, l...)
	has(t, open(t, d, 0), l...)
	ok(t, j.Cut(17))
	has(t, j, l[:17]...)
	has(t, open(t, d, 0), l[:17]...)
}

// P6.3: numbers that are no numbers of strings, and those that change nothing; none of them makes a call of the disk, nor prevents later ones.
func TestCutArg(t *testing.T) {
	for _, l := range [][]string{nil, {"a"}, {"a", "bc", ""}} {
		d := disk.New()
		j := open(t, d, 0)
		ok(t, j.Append(l))
		d.Arm(1, nil)
		d.Lose(1)
		for _, n := range []int{-1, len(l) + 1, len(l) + 2, 1 << 32, huge, least} {
			if e := j.Cut(n); e != api.ErrArg {
				t.Errorf("Cut of %d to %d strings: %d", len(l), n, e)
			}
		}
		ok(t, j.Cut(len(l)))
		ok(t, j.Append(nil))
		ok(t, j.Append([]string{}))
		has(t, j, l...)
		d.Arm(0, nil)
		if d.Down() || d.Sync(15) != api.ErrLost {
			t.Error("a call of the disk")
		}
		ok(t, j.Append([]string{"d"}))
		has(t, j, append(slices.Clone(l), "d")...)
		d.Crash(nil)
		if e := j.Cut(-1); e != api.ErrArg {
			t.Errorf("while the machine is down: %d", e)
		}
		ok(t, j.Cut(len(l)+1))
		ok(t, j.Append(nil))
		if e := j.Cut(0); e != api.ErrDown {
			t.Errorf("while the machine is down: %d", e)
		}
	}
}

// P6.2, P6.3: after an error of the disk, whichever call it was of, every change is refused, also one that does nothing, or has a wrong argument.
func TestState(t *testing.T) {
	changes := []func(j *journal.Journal) api.Errno{
		func(j *journal.Journal) api.Errno { return j.Append([]string{"d"}) },
		func(j *journal.Journal) api.Errno { return j.Cut(1) },
	}
	for i, change := range changes {
		for call := range 7 {
			d := disk.New()
			j := open(t, d, 0)
			ok(t, j.Append([]string{"a", "bc"}))
			want := api.ErrDown
			if call == 0 {
				want = api.ErrLost
				d.Lose(1)
			}
			d.Arm(call, nil)
			e := change(j)
			if count := 6 - 2*i; call > count { // the calls of the disk that the change makes
				ok(t, e)
				continue
			}
			if e != want {
				t.Errorf("the change %d with an error at the call %d: %d", i, call, e)
			}
			d.Start()
			before := content(t, d, 0) + content(t, d, 1)
			for _, e := range []api.Errno{j.Append([]string{"d"}), j.Append(nil), j.Append([]string{strings.Repeat("x", journal.Max)}), j.Cut(1), j.Cut(0), j.Cut(2), j.Cut(-1), j.Cut(3)} {
				if e != api.ErrState {
					t.Errorf("after the change %d with an error at the call %d: %d", i, call, e)
				}
			}
			has(t, j, "a", "bc")
			if content(t, d, 0)+content(t, d, 1) != before {
				t.Error("a change that is refused changes a file")
			}
			ok(t, open(t, d, 0).Append([]string{"e"}))
		}
	}
}

// P6.4: indices, and a machine that is down.
func TestGet(t *testing.T) {
	d := disk.New()
	j := open(t, d, 0)
	for _, l := range [][]string{nil, {"a", "", "c"}} {
		ok(t, j.Append(l))
		for _, i := range []int{-1, len(l), len(l) + 1, 1 << 32, huge, least} {
			if s := j.Get(i); s != "" {
				t.Errorf("the string %d of %d is %q", i, len(l), s)
			}
		}
		has(t, j, l...)
	}
	ok(t, j.Cut(2))
	if s := j.Get(2); s != "" {
		t.Errorf("a string that was cut off is %q", s)
	}
	d.Crash(nil)
	has(t, j, "a", "")
	if e := j.Append([]string{"b"}); e != api.ErrDown {
		t.Errorf("while the machine is down: %d", e)
	}
	has(t, j, "a", "")
	d.Start()
	has(t, open(t, d, 0), "a", "")
}

// P6.5: neither arguments nor results share memory with the list.
func TestMemory(t *testing.T) {
	d := disk.New()
	j := open(t, d, 0)
	l := []string{"a", "b", "c", "d"}
	ok(t, j.Append(l[:2]))
	if !slices.Equal(l, []string{"a", "b", "c", "d"}) {
		t.Errorf("Append changes its argument: %q", l)
	}
	l[0] = "x"
	has(t, j, "a", "b")
	ok(t, j.Append(l[1:3]))
	l[1], l[2] = "x", "x"
	has(t, j, "a", "b", "b", "c")
	one, two := j.All(), j.All()
	one[0] = "x"
	_ = append(one[:1], "x", "x", "x", "x")
	has(t, j, "a", "b", "b", "c")
	ok(t, j.Cut(1))
	ok(t, j.Append([]string{"y", "z"}))
	if !slices.Equal(two, []string{"a", "b", "b", "c"}) {
		t.Errorf("a result becomes %q", two)
	}
	part := j.All()[:1]
	_ = append(part, "x", "x")
	has(t, j, "a", "y", "z")
	k := open(t, d, 0)
	_ = append(k.All(), "x")
	k.All()[0] = "x"
	has(t, k, "a", "y", "z")
	has(t, open(t, d, 0), "a", "y", "z")
}

// P6.2: journals with different bases, and on a copy of the disk, do not touch each other.
func TestSeveral(t *testing.T) {
	d := disk.New()
	var l []*journal.Journal
	for base := 0; base < 16; base += 2 {
		l = append(l, open(t, d, base))
		ok(t, l[base/2].Append([]string{"a", strings.Repeat("b", base)}))
	}
	x := d.Copy()
	ok(t, open(t, x, 4).Cut(1))
	ok(t, l[3].Append([]string{"c"}))
	for i, j := range l {
		want := []string{"a", strings.Repeat("b", 2*i)}
		if i == 3 {
			want = append(want, "c")
		}
		has(t, j, want...)
		has(t, open(t, d, 2*i), want...)
	}
	has(t, open(t, x, 4), "a")
	has(t, open(t, x, 6), "a", "bbbbbb")
}
