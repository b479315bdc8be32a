package disk_test

import (
	"math"
	"slices"
	"strings"
	"testing"

	"errata/api"
	"errata/disk"
)

const huge, least = math.MaxInt, math.MinInt

func ok(t *testing.T, e api.Errno) {
	t.Helper()
	if e != api.OK {
		t.Fatalf("the call returns %d", e)
	}
}

// content returns the bytes of a file.
func content(t *testing.T, d *disk.Disk, f int) string {
	t.Helper()
	s, e := d.Read(f, 0, huge)
	ok(t, e)
	if len(s) != d.Size(f) {
		t.Fatalf("the file %d has %d bytes, but its size is %d", f, len(s), d.Size(f))
	}
	return s
}

// after returns the bytes of a file after a crash of a copy of the disk.
func after(t *testing.T, d *disk.Disk, f int, keep ...int) string {
	t.Helper()
	c := d.Copy()
	c.Crash(keep)
	c.Start()
	return content(t, c, f)
}

func zeros(n int) string { return strings.Repeat("\x00", n) }

// P4.1: a new disk is up and empty, and loses nothing.
func TestNew(t *testing.T) {
	d := disk.New()
	if d.Down() {
		t.Error("a new disk is down")
	}
	for f := range 16 {
		if content(t, d, f) != "" || after(t, d, f, 1) != "" {
			t.Errorf("the file %d is not empty", f)
		}
		ok(t, d.Write(f, 0, "a"))
		ok(t, d.Sync(f))
		ok(t, d.Truncate(f, 1))
		if got := after(t, d, f); got != "a" {
			t.Errorf("the file %d is %q", f, got)
		}
	}
	if other := disk.New(); content(t, other, 0) != "" {
		t.Error("two new disks share their files")
	}
}

// P4.1: Size, while the machine is up and down, and for what is no file number.
func TestSize(t *testing.T) {
	d := disk.New()
	ok(t, d.Write(0, 3, "abc"))
	ok(t, d.Sync(0))
	ok(t, d.Write(0, 5, "de"))
	ok(t, d.Write(15, 0, "x"))
	sizes := func() []int {
		var l []int
		for _, f := range []int{0, 1, 14, 15, 16, -1, 1 << 32, huge, least} {
			l = append(l, d.Size(f))
		}
		return l
	}
	if got := sizes(); !slices.Equal(got, []int{7, 0, 0, 1, 0, 0, 0, 0, 0}) {
		t.Error(got)
	}
	d.Crash(nil)
	if got := sizes(); !slices.Equal(got, []int{6, 0, 0, 0, 0, 0, 0, 0, 0}) {
		t.Error("down:", got)
	}
	d.Start()
	if got := sizes(); !slices.Equal(got, []int{6, 0, 0, 0, 0, 0, 0, 0, 0}) {
		t.Error("up again:", got)
	}
}

// P4.1: a copy has all that the disk has, and neither changes the other.
func TestCopy(t *testing.T) {
	d := disk.New()
	ok(t, d.Write(0, 0, "abc"))
	ok(t, d.Sync(0))
	ok(t, d.Write(0, 1, "X"))
	ok(t, d.Write(1, 0, "new"))
	d.Lose(1)
	d.Arm(4, []int{1, 0})
	c := d.Copy()
	for i, e := range []api.Errno{c.Write(0, 0, "Y"), c.Sync(1), c.Sync(1), c.Write(2, 0, "z")} {
		if want := []api.Errno{api.OK, api.ErrLost, api.OK, api.ErrDown}[i]; e != want {
			t.Errorf("the call %d of the copy returns %d, not %d", i, e, want)
		}
	}
	c.Start()
	if c.Copy().Copy().Down() {
		t.Error("a copy of a machine that is up is down")
	}
	if content(t, c, 0) != "YXc" || content(t, c, 1) != "new" || content(t, c, 2) != "" {
		t.Errorf("the copy: %q %q %q", content(t, c, 0), content(t, c, 1), content(t, c, 2))
	}
	if d.Down() || content(t, d, 0) != "aXc" || content(t, d, 1) != "new" || content(t, d, 2) != "" {
		t.Error("the copy changes the disk")
	}
	if after(t, d, 0, 1, 0) != "aXc" || after(t, d, 1, 1, 0) != "" || after(t, d, 0) != "abc" || after(t, d, 1, 0, 1) != "new" {
		t.Error("the copy changes what is durable or pending")
	}
	c = d.Copy()
	d.Crash(nil)
	if !d.Copy().Down() || c.Down() {
		t.Error("down")
	}
	if c.Sync(0) != api.ErrLost || c.Sync(0) != api.OK || after(t, c, 0) != "aXc" {
		t.Error("the disk changes its copy")
	}
}

// P4.2: what Read returns, and its errors.
func TestRead(t *testing.T) {
	d := disk.New()
	ok(t, d.Write(3, 1, "abc"))
	for _, c := range []struct {
		f, at, size int
		s           string
		e           api.Errno
	}{
		{3, 0, 4, "\x00abc", api.OK}, {3, 0, 5, "\x00abc", api.OK}, {3, 1, 2, "ab", api.OK}, {3, 2, huge, "bc", api.OK}, {3, 4, 1, "", api.OK}, {3, 5, 1, "", api.OK},
		{3, huge, huge, "", api.OK}, {3, 0, 0, "", api.OK}, {3, 3, 0, "", api.OK}, {4, 0, 1, "", api.OK}, {15, 0, 1, "", api.OK},
		{3, -1, 2, "", api.ErrArg}, {3, 0, -1, "", api.ErrArg}, {3, least, least, "", api.ErrArg}, {3, 9, -1, "", api.ErrArg}, {3, -1, 0, "", api.ErrArg},
		{16, 0, 1, "", api.ErrArg}, {-1, 0, 1, "", api.ErrArg}, {huge, 0, 1, "", api.ErrArg}, {least, 0, 1, "", api.ErrArg},
	} {
		if s, e := d.Read(c.f, c.at, c.size); s != c.s || e != c.e {
			t.Errorf("Read(%d, %d, %d) = %q, %d, not %q, %d", c.f, c.at, c.size, s, e, c.s, c.e)
		}
	}
	before, _ := d.Read(3, 0, 9)
	ok(t, d.Write(3, 0, "zzzz"))
	if before != "\x00abc" {
		t.Error("a write changes what was read before")
	}
}

// P4.2: writes over the bytes of a file, at its end and beyond it.
func TestWrite(t *testing.T) {
	d := disk.New()
	for _, c := range []struct {
		at      int
		s, want string
	}{
		{5, "", ""}, {0, "", ""}, {2, "ab", "\x00\x00ab"}, {1, "c", "\x00cab"}, {0, "d", "dcab"}, {4, "e", "dcabe"}, {3, "fgh", "dcafgh"}, {9, "", "dcafgh"},
		{1, "", "dcafgh"}, {0, "123456", "123456"}, {7, "i", "123456\x00i"}, {0, "abcdefghj", "abcdefghj"}, {4, "\x00\xff", "abcd\x00\xffghj"},
	} {
		ok(t, d.Write(5, c.at, c.s))
		if got := content(t, d, 5); got != c.want {
			t.Errorf("Write(5, %d, %q): the file is %q, not %q", c.at, c.s, got, c.want)
		}
	}
	for f := range 16 {
		if f != 5 && content(t, d, f) != "" {
			t.Errorf("a write to the file 5 changes the file %d", f)
		}
	}
}

// P4.2: the errors of Write, Sync and Truncate, which change nothing.
func TestErrors(t *testing.T) {
	d := disk.New()
	ok(t, d.Write(0, 0, "abc"))
	ok(t, d.Sync(0))
	ok(t, d.Write(0, 1, "XYZ"))
	d.Lose(3)
	const top = 1 << 24
	for _, c := range []struct {
		name string
		e    api.Errno
		want api.Errno
	}{
		{"a file too far", d.Write(16, 0, "a"), api.ErrArg}, {"a file before 0", d.Write(-1, 0, "a"), api.ErrArg}, {"no file, and full", d.Write(huge, huge, "a"), api.ErrArg},
		{"no file, and an empty string", d.Write(16, 0, ""), api.ErrArg}, {"an offset before 0", d.Write(0, -1, "a"), api.ErrArg}, {"an offset before 0, empty", d.Write(0, -1, ""), api.ErrArg},
		{"the least offset", d.Write(0, least, "abc"), api.ErrArg}, {"full", d.Write(0, top, "a"), api.ErrFull}, {"full by one", d.Write(0, top-2, "abc"), api.ErrFull},
		{"full, empty", d.Write(0, top+1, ""), api.ErrFull}, {"the greatest offset", d.Write(0, huge, "a"), api.ErrFull}, {"the greatest offset, empty", d.Write(0, huge, ""), api.ErrFull},
		{"an empty string at the top", d.Write(0, top, ""), api.OK}, {"an empty string", d.Write(0, 100, ""), api.OK},
		{"no file is synced", d.Sync(16), api.ErrArg}, {"nor this", d.Sync(-1), api.ErrArg}, {"nor that", d.Sync(least), api.ErrArg},
		{"longer", d.Truncate(0, 5), api.ErrArg}, {"shorter than 0", d.Truncate(0, -1), api.ErrArg}, {"the longest", d.Truncate(0, huge), api.ErrArg}, {"the least", d.Truncate(0, least), api.ErrArg},
		{"no file is cut", d.Truncate(16, 0), api.ErrArg}, {"nor that file", d.Truncate(-1, 0), api.ErrArg}, {"an empty file", d.Truncate(1, 1), api.ErrArg},
	} {
		if c.e != c.want {
			t.Errorf("%s: %d, not %d", c.name, c.e, c.want)
		}
	}
	if content(t, d, 0) != "aXYZ" || after(t, d, 0) != "abc" || after(t, d, 0, 1) != "aXYZ" || d.Size(1) != 0 {
		t.Error("a call with an error changes something")
	}
	for i := range 4 {
		if e := d.Sync(0); e != []api.Errno{api.ErrLost, api.ErrLost, api.ErrLost, api.OK}[i] {
			t.Errorf("the sync %d returns %d", i, e)
		}
	}
}

// P4.2: the greatest file, and a write that ends where it has to.
func TestTop(t *testing.T) {
	d := disk.New()
	ok(t, d.Write(0, 1<<24-2, "ab"))
	ok(t, d.Write(1, 0, strings.Repeat("x", 1<<24)))
	if e := d.Write(1, 0, strings.Repeat("y", 1<<24+1)); e != api.ErrFull {
		t.Errorf("more than a file can have: %d", e)
	}
	if s, e := d.Read(0, 1<<24-3, 9); s != "\x00ab" || e != api.OK {
		t.Errorf("%q, %d", s, e)
	}
	if d.Size(0) != 1<<24 || d.Size(1) != 1<<24 || after(t, d, 1, 1) != content(t, d, 1) {
		t.Error("the greatest files")
	}
	ok(t, d.Sync(0))
	if after(t, d, 0) != content(t, d, 0) {
		t.Error("a sync of the greatest file")
	}
}

// P4.2: a call while the machine is down returns ErrDown first, and changes nothing.
func TestDown(t *testing.T) {
	d := disk.New()
	ok(t, d.Write(0, 0, "abc"))
	ok(t, d.Sync(0))
	d.Lose(1)
	d.Crash(nil)
	for range 2 {
		for i, e := range []api.Errno{d.Write(0, 0, "z"), d.Write(-1, 0, "z"), d.Write(0, -1, "z"), d.Write(0, huge, "z"), d.Write(0, 0, ""), d.Sync(0), d.Sync(16), d.Truncate(0, 0), d.Truncate(99, 0), d.Truncate(0, -1)} {
			if e != api.ErrDown {
				t.Errorf("the call %d returns %d", i, e)
			}
		}
		for _, l := range [][3]int{{0, 0, 9}, {16, 0, 9}, {0, -1, 9}, {0, 0, -9}} {
			if s, e := d.Read(l[0], l[1], l[2]); s != "" || e != api.ErrDown {
				t.Errorf("Read: %q, %d", s, e)
			}
		}
		d.Crash([]int{1})
	}
	d.Start()
	if content(t, d, 0) != "abc" || d.Sync(0) != api.ErrLost || d.Sync(0) != api.OK {
		t.Error("a call while the machine is down changes something")
	}
}

// P4.2: which sectors are pending, in which order.
func TestPending(t *testing.T) {
	for i, c := range []struct {
		at, size int
		pending  []int
	}{
		{0, 0, nil}, {64, 0, nil}, {70, 0, nil}, {0, 1, []int{0}}, {0, 64, []int{0}}, {0, 65, []int{0, 1}}, {63, 1, []int{0}}, {63, 2, []int{0, 1}}, {64, 1, []int{1}},
		{127, 1, []int{1}}, {127, 66, []int{1, 2, 3}}, {128, 64, []int{2}}, {10, 200, []int{0, 1, 2, 3}}, {640, 1, []int{10}},
	} {
		d := disk.New()
		ok(t, d.Write(0, c.at, strings.Repeat("x", c.size)))
		for k := range len(c.pending) + 1 {
			keep := make([]int, len(c.pending)+1)
			keep[k] = 1
			want := ""
			if k < len(c.pending) {
				from := max(64*c.pending[k], c.at)
				want = zeros(from) + strings.Repeat("x", min(64*c.pending[k]+64, c.at+c.size)-from)
			}
			if got := after(t, d, 0, keep...); got != want {
				t.Errorf("%d: of the sectors only that with the index %d survives: %q, not %q", i, k, got, want)
			}
		}
	}
	d := disk.New()
	ok(t, d.Write(2, 130, "c"))
	ok(t, d.Write(1, 0, "b"))
	ok(t, d.Write(2, 60, strings.Repeat("d", 100)))
	ok(t, d.Write(1, 1, "e"))
	var got []string
	for i := range 5 {
		keep := make([]int, 5)
		keep[i] = 1
		got = append(got, after(t, d, 1, keep...)+"|"+after(t, d, 2, keep...))
	}
	third := strings.Repeat("d", 32)
	if want := []string{"|" + zeros(128) + third, "be|", "|" + zeros(60) + "dddd", "|" + zeros(64) + third + third, "|"}; !slices.Equal(got, want) {
		t.Errorf("the order of the list: %q, not %q", got, want)
	}
}

// P4.2: Sync makes one file durable, with what was appended before a write, and Truncate does so with a part of it.
func TestDurable(t *testing.T) {
	d := disk.New()
	ok(t, d.Write(0, 70, "abc"))
	ok(t, d.Write(1, 0, "def"))
	if after(t, d, 0) != "" || after(t, d, 1) != "" {
		t.Error("a write is durable without a sync")
	}
	ok(t, d.Sync(0))
	if after(t, d, 0) != zeros(70)+"abc" || after(t, d, 1) != "" || after(t, d, 1, 1) != "def" {
		t.Error("Sync")
	}
	ok(t, d.Write(0, 300, "z"))
	ok(t, d.Write(0, 0, "y"))
	ok(t, d.Truncate(0, 250))
	if want := "y" + zeros(69) + "abc" + zeros(177); content(t, d, 0) != want || after(t, d, 0) != want || after(t, d, 1) != "" || after(t, d, 1, 1) != "def" {
		t.Error("Truncate")
	}
	ok(t, d.Truncate(0, 72))
	ok(t, d.Write(0, 80, "w"))
	if want := "y" + zeros(69) + "ab" + zeros(8) + "w"; content(t, d, 0) != want || after(t, d, 0) != want[:72] || after(t, d, 0, 1) != want {
		t.Error("what was cut off comes back")
	}
	ok(t, d.Truncate(0, 81))
	ok(t, d.Truncate(0, 81))
	if after(t, d, 0) != content(t, d, 0) || d.Size(0) != 81 {
		t.Error("a truncation to the size makes a file durable")
	}
	ok(t, d.Truncate(0, 0))
	ok(t, d.Truncate(9, 0))
	if after(t, d, 0, 1) != "" || d.Size(0) != 0 {
		t.Error("a truncation to nothing")
	}
	ok(t, d.Write(0, 1, "v"))
	if content(t, d, 0) != "\x00v" || after(t, d, 0, 1) != "\x00v" {
		t.Error("the bytes before the offset are not 0")
	}
}

// P4.3: lost syncs, which change nothing, and stay due after a crash.
func TestLose(t *testing.T) {
	d := disk.New()
	syncs := func(want ...api.Errno) {
		t.Helper()
		for i, e := range want {
			if got := d.Sync(i % 3); got != e {
				t.Errorf("the sync %d returns %d, not %d", i, got, e)
			}
		}
	}
	syncs(api.OK)
	d.Lose(2)
	syncs(api.ErrLost, api.ErrLost, api.OK)
	d.Lose(5)
	d.Lose(1)
	syncs(api.ErrLost, api.OK)
	for _, n := range []int{0, -1, least} {
		d.Lose(3)
		d.Lose(n)
		syncs(api.OK)
	}
	ok(t, d.Write(0, 0, "a"))
	d.Lose(2)
	syncs(api.ErrLost)
	if after(t, d, 0) != "" || after(t, d, 0, 1) != "a" {
		t.Error("a lost sync changes what is durable or pending")
	}
	ok(t, d.Truncate(1, 0))
	d.Crash(nil)
	d.Start()
	syncs(api.ErrLost, api.OK)
	d.Lose(huge)
	syncs(api.ErrLost, api.ErrLost, api.ErrLost)
	d.Crash(nil)
	d.Lose(1)
	d.Start()
	syncs(api.ErrLost, api.OK)
}

// P4.3: the chapter's examples, and other lists of what is kept.
func TestCrash(t *testing.T) {
	x := strings.Repeat("x", 64)
	long := []string{"", x, x, x, x[:8]}
	cut := func(keep ...int) string {
		s := ""
		for i, part := range long[1:] {
			if len(keep) > 0 && keep[i%len(keep)]%2 != 0 {
				s += zeros(64*i-len(s)) + part
			}
		}
		return s
	}
	for _, keep := range [][]int{nil, {}, {0}, {1}, {-1}, {2}, {-2}, {3}, {huge}, {least}, {1, 0}, {0, 1}, {0, 0, 1}, {1, 0, 0}, {0, 0, 0, 1}, {1, 1, 1, 0}, {0, 0, 0, 0, 1}, {0, -3, 4, 5, 1, 1}} {
		d := disk.New()
		ok(t, d.Write(7, 0, strings.Repeat("x", 200)))
		given := slices.Clone(keep)
		if got := after(t, d, 7, keep...); got != cut(keep...) {
			t.Errorf("%v: %q", keep, got)
		}
		d.Crash(keep)
		if !d.Down() || d.Size(7) != len(cut(keep...)) || !slices.Equal(keep, given) {
			t.Errorf("%v: down %v, %d bytes", keep, d.Down(), d.Size(7))
		}
		d.Crash([]int{1})
		d.Start()
		d.Start()
		if d.Down() || content(t, d, 7) != cut(keep...) || after(t, d, 7, 1) != cut(keep...) {
			t.Errorf("%v: after the start", keep)
		}
	}
	d := disk.New()
	ok(t, d.Write(0, 62, "abcd"))
	if got := after(t, d, 0, 0, 1); got != zeros(64)+"cd" {
		t.Errorf("%q", got)
	}
	d = disk.New()
	ok(t, d.Write(0, 0, "abc"))
	ok(t, d.Sync(0))
	ok(t, d.Write(0, 1, "XY"))
	if after(t, d, 0, 1) != "aXY" || after(t, d, 0, 0) != "abc" || after(t, d, 0) != "abc" {
		t.Error("the chapter's first examples")
	}
	d.Crash(nil)
	d.Start()
	ok(t, d.Write(0, 2, "Z"))
	if after(t, d, 0, 1) != "abZ" || after(t, d, 0, 0, 1) != "abc" {
		t.Error("something is pending after a crash")
	}
}

// P4.4: which calls count, and what the call with the crash does.
func TestArm(t *testing.T) {
	calls := []func(*disk.Disk) api.Errno{
		func(d *disk.Disk) api.Errno { return d.Write(0, 0, "ab") },
		func(d *disk.Disk) api.Errno { return d.Write(16, 0, "ab") },
		func(d *disk.Disk) api.Errno { return d.Write(0, -1, "ab") },
		func(d *disk.Disk) api.Errno { return d.Write(0, 1<<24, "ab") },
		func(d *disk.Disk) api.Errno { return d.Write(0, 1, "") },
		func(d *disk.Disk) api.Errno { return d.Sync(9) },
		func(d *disk.Disk) api.Errno { return d.Sync(99) },
		func(d *disk.Disk) api.Errno { return d.Truncate(0, 1) },
		func(d *disk.Disk) api.Errno { return d.Truncate(0, 9) },
		func(d *disk.Disk) api.Errno { return d.Write(0, 1, "cd") },
		func(d *disk.Disk) api.Errno { return d.Sync(0) },
		func(d *disk.Disk) api.Errno { return d.Write(0, 0, "ef") },
	}
	returns := []api.Errno{api.OK, api.ErrArg, api.ErrArg, api.ErrFull, api.OK, api.ErrLost, api.ErrArg, api.OK, api.ErrArg, api.OK, api.OK, api.OK}
	kept := []string{"ab", "ab", "ab", "ab", "ab", "ab", "ab", "ab", "a", "acd", "acd", "efd"}
	durable := []string{"", "", "", "", "", "", "", "", "a", "a", "a", "acd"}
	for i := range calls {
		for keep, files := range [][]string{durable, kept} {
			d := disk.New()
			d.Lose(1)
			d.Arm(i+1, []int{keep})
			d.Read(0, 0, 1)
			d.Size(0)
			for k, call := range calls {
				e := call(d)
				if k < i && (e != returns[k] || d.Down()) {
					t.Fatalf("the call %d before that with the crash, %d, returns %d", k, i, e)
				}
				if k >= i && (e != api.ErrDown || !d.Down()) {
					t.Fatalf("the call %d from that with the crash on, %d, returns %d", k, i, e)
				}
			}
			d.Start()
			if got := content(t, d, 0); got != files[i] {
				t.Errorf("a crash with the call %d, keep %d: %q, not %q", i, keep, got, files[i])
			}
			if e := d.Sync(0); (e == api.ErrLost) != (i <= 5) {
				t.Errorf("a crash with the call %d: the next sync returns %d", i, e)
			}
		}
	}
}

// P4.4: when there is no schedule any more, or another one.
func TestSchedule(t *testing.T) {
	writes := func(d *disk.Disk) int {
		for n := range 20 {
			if d.Write(0, n, "a") != api.OK {
				return n + 1
			}
		}
		return 0
	}
	for _, c := range []struct {
		name string
		f    func(d *disk.Disk)
		want int
	}{
		{"none", func(d *disk.Disk) {}, 0}, {"1", func(d *disk.Disk) { d.Arm(1, nil) }, 1}, {"7", func(d *disk.Disk) { d.Arm(7, nil) }, 7}, {"0", func(d *disk.Disk) { d.Arm(0, nil) }, 0},
		{"-1", func(d *disk.Disk) { d.Arm(-1, nil) }, 0}, {"least", func(d *disk.Disk) { d.Arm(least, nil) }, 0}, {"huge", func(d *disk.Disk) { d.Arm(huge, nil) }, 0},
		{"less", func(d *disk.Disk) { d.Arm(7, nil); d.Arm(2, nil) }, 2}, {"more", func(d *disk.Disk) { d.Arm(2, nil); d.Arm(7, nil) }, 7}, {"no more", func(d *disk.Disk) { d.Arm(2, nil); d.Arm(0, nil) }, 0},
		{"counted anew", func(d *disk.Disk) { d.Arm(3, nil); d.Sync(0); d.Sync(0); d.Arm(3, nil) }, 3}, {"cancelled by a crash", func(d *disk.Disk) { d.Arm(3, nil); d.Crash(nil); d.Start() }, 0},
		{"a crash that does nothing", func(d *disk.Disk) { d.Crash(nil); d.Arm(3, nil); d.Crash(nil); d.Start() }, 3},
		{"calls while the machine is down", func(d *disk.Disk) {
			d.Crash(nil)
			d.Arm(3, nil)
			d.Sync(0)
			d.Write(0, 0, "a")
			d.Truncate(0, 0)
			d.Start()
		}, 3},
		{"reads", func(d *disk.Disk) {
			d.Arm(3, nil)
			d.Read(0, 0, 9)
			d.Size(0)
			d.Down()
			d.Lose(0)
			d.Start()
			d.Copy()
		}, 3},
		{"calls of a copy", func(d *disk.Disk) { d.Arm(3, nil); d.Copy().Sync(0) }, 3}, {"a copy", func(d *disk.Disk) { d.Copy().Arm(3, nil) }, 0},
	} {
		d := disk.New()
		c.f(d)
		if got := writes(d); got != c.want {
			t.Errorf("%s: the crash comes with the write %d, not %d", c.name, got, c.want)
		}
		d.Start()
		if got := writes(d); d.Down() || got != 0 {
			t.Errorf("%s: there is another crash", c.name)
		}
	}
	d := disk.New()
	keep := []int{1, 0, 7}
	d.Arm(2, keep[:1])
	c := d.Copy()
	keep[0] = 0
	for _, d := range []*disk.Disk{d, c} {
		ok(t, d.Write(0, 0, "a"))
		if d.Write(0, 1, "b") != api.ErrDown || d.Size(0) != 2 {
			t.Error("the list of what is kept can be changed from outside")
		}
	}
}

// P4.2: many calls on the greatest files, with many pending sectors.
func TestLong(t *testing.T) {
	d := disk.New()
	ok(t, d.Write(0, 1<<24-1, "z"))
	ok(t, d.Write(1, 0, strings.Repeat("z", 1<<24)))
	for n := range 1 << 16 {
		ok(t, d.Write(0, 64*n, "a"))
		ok(t, d.Write(1, n, "b"))
	}
	ok(t, d.Sync(1))
	ok(t, d.Sync(0))
	for n := range 1 << 14 {
		ok(t, d.Write(0, n, "c"))
		ok(t, d.Sync(0))
	}
	if s := after(t, d, 0); len(s) != 1<<24 || s[:1<<14] != strings.Repeat("c", 1<<14) || s[1<<14:1<<14+2] != "a\x00" {
		t.Error("the file is another one")
	}
}
