package cell_test

import (
	"math"
	"strings"
	"testing"

	"errata/api"
	"errata/cell"
	"errata/disk"
)

const (
	huge, least   = math.MaxInt, math.MinInt
	first, second = 64, 131072 // where the slots begin
)

func ok(t *testing.T, e api.Errno) {
	t.Helper()
	if e != api.OK {
		t.Fatalf("the call returns %d", e)
	}
}

func zeros(n int) string { return strings.Repeat("\x00", n) }

// content returns the bytes of a file.
func content(t *testing.T, d *disk.Disk, f int) string {
	t.Helper()
	s, e := d.Read(f, 0, huge)
	ok(t, e)
	return s
}

// holding returns a disk whose file f has these bytes, all of them durable.
func holding(t *testing.T, f int, s string) *disk.Disk {
	t.Helper()
	d := disk.New()
	ok(t, d.Write(f, 0, s))
	ok(t, d.Sync(f))
	return d
}

func open(t *testing.T, d *disk.Disk, f int) *cell.Cell {
	t.Helper()
	c, e := cell.Open(d, f)
	if c == nil || e != api.OK {
		t.Fatalf("Open returns %v, %d", c, e)
	}
	return c
}

// has checks the value of a cell.
func has(t *testing.T, c *cell.Cell, want string) {
	t.Helper()
	if s, there := c.Get(); s != want || !there {
		t.Errorf("the value is %.20q (%d bytes), %v, not %.20q (%d bytes)", s, len(s), there, want, len(want))
	}
}

// empty checks that a cell has no value.
func empty(t *testing.T, c *cell.Cell) {
	t.Helper()
	if s, there := c.Get(); s != "" || there {
		t.Errorf("the value is %.20q, %v, not none", s, there)
	}
}

// P5.1: Open returns the errors of a read.
func TestOpenErrors(t *testing.T) {
	d := holding(t, 0, "\x03")
	for _, f := range []int{-1, 16, 17, 1 << 32, huge, least} {
		if c, e := cell.Open(d, f); c != nil || e != api.ErrArg {
			t.Errorf("the file %d: %v, %d", f, c, e)
		}
	}
	d.Crash(nil)
	for _, f := range []int{0, 1, 15, 16, -1} {
		if c, e := cell.Open(d, f); c != nil || e != api.ErrDown {
			t.Errorf("the file %d of a machine that is down: %v, %d", f, c, e)
		}
	}
	d.Start()
	for f := 1; f < 16; f++ {
		empty(t, open(t, d, f))
	}
}

// P5.1: a file without a header, whatever stands in its other bytes.
func TestOpenEmpty(t *testing.T) {
	for _, s := range []string{"", "\x00", zeros(4), zeros(5), zeros(64), zeros(second) + "x", "\x00\x01\x00\x00\x00", "\x00\xff\xff\xff\xff", "\x00\xff", "\x00\x01\x00\x00\x00" + zeros(59) + "x"} {
		d := holding(t, 3, s)
		c := open(t, d, 3)
		empty(t, c)
		if content(t, d, 3) != s {
			t.Errorf("%.20q: Open changes the file", s)
		}
		ok(t, c.Set("value"))
		has(t, c, "value")
		has(t, open(t, d, 3), "value")
		if got := content(t, d, 3); got[:5] != "\x01\x05\x00\x00\x00" || got[first:first+5] != "value" {
			t.Errorf("%.20q: the first value is not in the slot 1: %.70q", s, got)
		}
	}
}

// P5.1: headers with a value, at the borders of slots, lengths and files.
func TestOpenValue(t *testing.T) {
	long := strings.Repeat("0123456789abcdef", cell.Max/16)
	for _, c := range []struct{ file, want string }{
		{"\x01\x00\x00\x00\x00", ""}, {"\x02\x00\x00\x00\x00", ""}, {"\x01\x00\x00\x00\x00" + zeros(59), ""}, {"\x02\x00\x00\x00\x00" + zeros(second) + "x", ""},
		{"\x01\x01\x00\x00\x00" + zeros(59) + "a", "a"}, {"\x01\x01\x00\x00\x00" + zeros(59) + "ab", "a"}, {"\x01\x02\x00\x00\x00xyz" + zeros(56) + "ab", "ab"}, {"\x01\x02\x00\x00\x00" + zeros(59) + "\x00\xff", "\x00\xff"},
		{"\x01\x00\x01\x00\x00" + zeros(59) + long[:256], long[:256]}, {"\x01\x03\x02\x00\x00" + zeros(59) + long[:999], long[:515]}, {"\x01\xff\x00\x00\x00" + zeros(59) + long, long[:255]},
		{"\x01\xff\xff\x00\x00" + zeros(59) + long, long[:cell.Max-1]}, {"\x01\x00\x00\x01\x00" + zeros(59) + long, long}, {"\x01\x00\x00\x01\x00" + zeros(59) + long + "x", long},
		{"\x02\x02\x00\x00\x00" + zeros(second-5) + "cd", "cd"}, {"\x02\x02\x00\x00\x00" + zeros(59) + "ab" + zeros(second-66) + "cde", "cd"}, {"\x02\x00\x00\x01\x00" + zeros(second-5) + long, long}, {"\x02\x01\x01\x00\x00" + zeros(second-5) + long, long[:257]},
	} {
		d := holding(t, 15, c.file)
		got := open(t, d, 15)
		has(t, got, c.want)
		if content(t, d, 15) != c.file {
			t.Errorf("%.20q: Open changes the file", c.file)
		}
	}
}

// P5.1: what is no cell.
func TestOpenForm(t *testing.T) {
	long := strings.Repeat("x", 3*cell.Max)
	for _, s := range []string{
		"\x01", "\x02", "\x03", "\xff", "x", "\x01\x00", "\x01\x00\x00\x00", "\x02\x00\x00\x00", "\x01\x01\x00\x00", // fewer than 5 bytes
		"\x03\x00\x00\x00\x00", "\x03\x01\x00\x00\x00" + long, "\x04\x00\x00\x00\x00", "\x7f\x00\x00\x00\x00", "\x80\x00\x00\x00\x00", "\xff\x00\x00\x00\x00", "1\x00\x00\x00\x00", "2\x00\x00\x00\x00" + long, // no slot
		"\x01\x01\x00\x01\x00" + long, "\x02\x01\x00\x01\x00" + long, "\x01\x00\x01\x01\x00" + long, "\x01\x00\x00\x02\x00" + long, "\x01\x00\x00\x00\x01" + long, "\x02\x00\x00\x00\x80" + long, "\x01\xff\xff\xff\xff" + long, "\x02\xff\xff\xff\xff" + long, "\x01\xff\xff\xff\x7f", // too long
		"\x01\x01\x00\x00\x00", "\x01\x01\x00\x00\x00" + zeros(59), "\x01\x02\x00\x00\x00" + zeros(59) + "a", "\x01\x00\x00\x01\x00" + zeros(59) + long[:cell.Max-1], "\x01\x00\x01\x00\x00" + zeros(59) + long[:255], // a file that ends too early
		"\x02\x01\x00\x00\x00", "\x02\x01\x00\x00\x00" + zeros(59) + long[:1000], "\x02\x01\x00\x00\x00" + zeros(second-5), "\x02\x03\x00\x00\x00" + zeros(second-5) + "ab", "\x02\x00\x00\x01\x00" + zeros(second-5) + long[:cell.Max-1],
	} {
		d := holding(t, 0, s)
		if c, e := cell.Open(d, 0); c != nil || e != api.ErrForm {
			t.Errorf("%.20q with %d bytes: %v, %d", s, len(s), c, e)
		}
		if content(t, d, 0) != s {
			t.Errorf("%.20q: Open changes the file", s)
		}
	}
}

// P5.1: Open and Get make no call of the disk that counts, and leave pending what is pending.
func TestOpenQuiet(t *testing.T) {
	d := disk.New()
	ok(t, open(t, d, 3).Set("old"))
	ok(t, d.Write(3, first, "new"))
	d.Arm(1, nil)
	d.Lose(1)
	has(t, open(t, d, 3), "new")
	if d.Down() || d.Sync(0) != api.ErrDown {
		t.Error("Open makes a call that counts")
	}
	d.Start()
	has(t, open(t, d, 3), "old")
	if d.Sync(0) != api.ErrLost {
		t.Error("Open syncs")
	}
}

// P5.2: the value of a cell, also the empty one, and while the machine is down.
func TestGet(t *testing.T) {
	d := disk.New()
	c := open(t, d, 0)
	empty(t, c)
	ok(t, c.Set(""))
	has(t, c, "")
	has(t, open(t, d, 0), "")
	if d.Size(0) != 5 {
		t.Errorf("a header without bytes of a value: %d bytes", d.Size(0))
	}
	for _, s := range []string{"a", "", "\x00", "", "b\xffc", strings.Repeat("d", cell.Max), "", "e"} {
		ok(t, c.Set(s))
		has(t, c, s)
		has(t, c, s)
		has(t, open(t, d, 0), s)
	}
	d.Crash(nil)
	has(t, c, "e")
}

// layout returns the bytes of a file with a header, and with both slots, the second one if it is not empty.
func layout(header, one, two string) string {
	s := header + zeros(first-len(header)) + one
	if two != "" {
		s += zeros(second-len(s)) + two
	}
	return s
}

// P5.3: the bytes of the file after each of several calls: the slots take turns, and keep what stands beyond the values.
func TestSetBytes(t *testing.T) {
	d := disk.New()
	c := open(t, d, 9)
	long := strings.Repeat("x", 300)
	most := strings.Repeat("y", cell.Max)
	for i, l := range []struct{ s, file string }{
		{"a", layout("\x01\x01\x00\x00\x00", "a", "")},
		{"bc", layout("\x02\x02\x00\x00\x00", "a", "bc")},
		{long, layout("\x01\x2c\x01\x00\x00", long, "bc")},
		{"", layout("\x02\x00\x00\x00\x00", long, "bc")},
		{"d\x00", layout("\x01\x02\x00\x00\x00", "d\x00"+long[2:], "bc")},
		{"e", layout("\x02\x01\x00\x00\x00", "d\x00"+long[2:], "ec")},
		{most, layout("\x01\x00\x00\x01\x00", most, "ec")},
		{most, layout("\x02\x00\x00\x01\x00", most, most)},
		{most[1:], layout("\x01\xff\xff\x00\x00", most, most)},
		{most[1:], layout("\x02\xff\xff\x00\x00", most, most)},
		{"f", layout("\x01\x01\x00\x00\x00", "f"+most[1:], most)},
	} {
		ok(t, c.Set(l.s))
		if got := content(t, d, 9); got != l.file {
			t.Fatalf("the call %d: the file begins with %.70q and has %d bytes, not %.70q and %d", i, got, len(got), l.file, len(l.file))
		}
	}
	for f := range 16 {
		if f != 9 && d.Size(f) != 0 {
			t.Errorf("a cell in the file 9 changes the file %d", f)
		}
	}
}

// P5.3: a cell that is opened anew goes on with the other slot.
func TestSetReopened(t *testing.T) {
	d := disk.New()
	for i, s := range []string{"a", "bc", "def", "g"} {
		ok(t, open(t, d, 0).Set(s))
		if got := content(t, d, 0); int(got[0]) != 1+i%2 {
			t.Errorf("the value %d is in the slot %d", i, got[0])
		}
	}
	if content(t, d, 0) != layout("\x02\x01\x00\x00\x00", "def", "gc") {
		t.Errorf("%.80q", content(t, d, 0))
	}
}

// P5.3: a value that is too long is refused, before any call of the disk.
func TestSetFull(t *testing.T) {
	for _, old := range []string{"none", "old"} {
		for _, size := range []int{cell.Max + 1, cell.Max + 2, 2 * cell.Max, 1 << 24, 1<<24 + 1} {
			d := disk.New()
			c := open(t, d, 0)
			if old == "old" {
				ok(t, c.Set(old))
				c = open(t, d, 0)
			}
			before := content(t, d, 0)
			d.Lose(1)
			d.Arm(1, nil)
			if e := c.Set(strings.Repeat("x", size)); e != api.ErrFull || d.Down() {
				t.Errorf("%d bytes: %d", size, e)
			}
			d.Arm(0, nil)
			if content(t, d, 0) != before || d.Sync(0) != api.ErrLost {
				t.Errorf("%d bytes: the disk is changed", size)
			}
			if s, there := c.Get(); there != (old == "old") || there && s != old || !there && s != "" {
				t.Errorf("%d bytes: the value is %.20q, %v", size, s, there)
			}
			d.Crash(nil)
			if e := c.Set(strings.Repeat("x", size)); e != api.ErrFull {
				t.Errorf("%d bytes, while the machine is down: %d", size, e)
			}
			if e := c.Set(""); e != api.ErrDown {
				t.Errorf("an empty value, while the machine is down: %d", e)
			}
		}
	}
}

// P5.1, P5.3: cells in different files, and on a copy of the disk, do not touch each other.
func TestSeveral(t *testing.T) {
	d := disk.New()
	var l []*cell.Cell
	for f := range 16 {
		l = append(l, open(t, d, f))
		ok(t, l[f].Set(strings.Repeat(string(rune('a'+f)), f)))
	}
	x := d.Copy()
	ok(t, open(t, x, 5).Set("other"))
	for f, c := range l {
		has(t, c, strings.Repeat(string(rune('a'+f)), f))
		has(t, open(t, d, f), strings.Repeat(string(rune('a'+f)), f))
	}
	has(t, open(t, x, 5), "other")
	has(t, open(t, x, 6), "gggggg")
}
