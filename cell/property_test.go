package cell_test

import (
	"slices"
	"strings"
	"testing"

	"errata/api"
	"errata/cell"
	"errata/disk"
)

// model is a cell in the file 3 as the chapter defines it, step by step.
type model struct {
	d     *disk.Disk
	slot  int
	value string
	sure  bool
}

// set performs the steps up to the first one that fails.
func (m *model) set(s string) api.Errno {
	slot, at := 1, first
	if m.slot == 1 {
		slot, at = 2, second
	}
	header := string([]byte{byte(slot), byte(len(s) % 256), byte(len(s) / 256 % 256), byte(len(s) / 65536), 0})
	for step := 1; step <= 5; step++ {
		e := api.Errno(api.OK)
		switch {
		case step == 1 && !m.sure && m.slot != 0, step == 3, step == 5:
			e = m.d.Sync(3)
		case step == 2:
			e = m.d.Write(3, at, s)
		case step == 4:
			e = m.d.Write(3, 0, header)
		}
		if e != api.OK {
			return e
		}
		switch step {
		case 1, 5:
			m.sure = true
		case 4:
			m.slot, m.value, m.sure = slot, s, false
		}
	}
	return api.OK
}

// start is a state of a cell and its disk, and how it comes about.
type start struct {
	name  string
	slot  int
	value string
	sure  bool
	disk  func(t *testing.T) (*disk.Disk, *cell.Cell)
}

// opened returns a way to a disk on which calls were made, and a cell in the file 3 that is opened then, and in which values are set.
func opened(calls func(d *disk.Disk), values ...string) func(t *testing.T) (*disk.Disk, *cell.Cell) {
	return func(t *testing.T) (*disk.Disk, *cell.Cell) {
		d := disk.New()
		calls(d)
		c := open(t, d, 3)
		for _, s := range values {
			d.Lose(strings.Count(s, "lost"))
			if e := c.Set(s); (e == api.OK) == strings.Contains(s, "lost") {
				t.Fatalf("the value %s: %d", s, e)
			}
		}
		return d, c
	}
}

func starts() []start {
	nothing := func(d *disk.Disk) {}
	raw := func(slot string, sync bool) func(d *disk.Disk) {
		return func(d *disk.Disk) {
			d.Write(3, 0, "\x01\x00\x00\x00\x00")
			d.Write(3, first, strings.Repeat("p", 99))
			d.Write(3, second, strings.Repeat("q", 99))
			d.Sync(3)
			d.Write(3, 0, slot+"\x63\x00\x00\x00")
			if sync {
				d.Sync(3)
			}
		}
	}
	ps, qs := strings.Repeat("p", 99), strings.Repeat("q", 99)
	return []start{
		{name: "an empty file", disk: opened(nothing)},
		{name: "a file without a header", disk: opened(func(d *disk.Disk) { d.Write(3, 0, "\x00abc") })},
		{name: "the first value was lost", disk: opened(nothing, "lost", "also lost")},
		{name: "one value", slot: 1, value: "a", sure: true, disk: opened(nothing, "a")},
		{name: "two values", slot: 2, value: "b", sure: true, disk: opened(nothing, "a", "b")},
		{name: "an empty value", slot: 1, sure: true, disk: opened(nothing, "a", "b", "")},
		{name: "a later value was lost", slot: 2, value: "b", sure: true, disk: opened(nothing, "a", "b", "lost")},
		{name: "opened with the slot 1", slot: 1, value: ps, disk: opened(raw("\x01", true))},
		{name: "opened with the slot 2", slot: 2, value: qs, disk: opened(raw("\x02", true))},
		{name: "opened with a header that is not durable", slot: 2, value: qs, disk: opened(raw("\x02", false))},
		{name: "opened, and the sync of the header was lost", slot: 2, value: qs, disk: opened(raw("\x02", false), "lost")},
		{name: "opened, and set", slot: 1, value: "a", sure: true, disk: opened(raw("\x02", false), "a")},
		{name: "opened, and set, and a later value was lost", slot: 1, value: "a", sure: true, disk: opened(raw("\x02", true), "lost", "a", "lost")},
	}
}

// sameDisk reports whether two disks have the same bytes in the file 3, now and after crashes.
func sameDisk(t *testing.T, a, b *disk.Disk) bool {
	t.Helper()
	if a.Down() || b.Down() {
		return a.Down() && b.Down()
	}
	for _, keep := range [][]int{nil, {0, 1}} {
		x, y := a.Copy(), b.Copy()
		for _, d := range []*disk.Disk{x, y} {
			d.Crash(keep)
			d.Start()
		}
		if content(t, x, 3) != content(t, y, 3) {
			return false
		}
	}
	return content(t, a, 3) == content(t, b, 3)
}

// fault is a crash that is scheduled, or syncs that are lost.
type fault struct {
	n    int
	keep []int
	lost int
}

func faults() []fault {
	l := []fault{{}, {lost: 1}, {lost: 2}, {n: 5, lost: 1}}
	for n := 1; n <= 6; n++ {
		for _, keep := range [][]int{nil, {1}, {0, 1}, {1, 0, 0}} {
			l = append(l, fault{n: n, keep: keep})
		}
	}
	return l
}

func (f fault) set(d *disk.Disk) {
	d.Arm(f.n, f.keep)
	d.Lose(f.lost)
}

// P5.3: Set makes the calls of its steps, in their order, and stops at the first one that fails.
func TestSteps(t *testing.T) {
	for _, c := range starts() {
		for _, size := range []int{0, 200} {
			for _, f := range faults() {
				d, got := c.disk(t)
				x, _ := c.disk(t)
				m := &model{d: x, slot: c.slot, value: c.value, sure: c.sure}
				f.set(d)
				f.set(x)
				for call, s := range []string{strings.Repeat("n", size), "second", "third"} {
					e, want := got.Set(s), m.set(s)
					if e != want || !sameDisk(t, d, x) {
						t.Fatalf("%s, %d bytes, %v: the call %d returns %d, not %d, or the file is another one", c.name, size, f, call, e, want)
					}
					if v, there := got.Get(); v != m.value || there != (m.slot != 0) {
						t.Fatalf("%s, %d bytes, %v: the value after the call %d is %.20q, %v", c.name, size, f, call, v, there)
					}
				}
				d.Start()
				x.Start()
				if content(t, d, 3) != content(t, x, 3) {
					t.Fatalf("%s, %d bytes, %v: the file is another one", c.name, size, f)
				}
			}
		}
	}
}

// P5.3: as many calls as there are steps, which are four for a cell that is sure, or has no slot, and five for others.
func TestCalls(t *testing.T) {
	for _, c := range starts() {
		d, got := c.disk(t)
		want := 4
		if c.slot != 0 && !c.sure {
			want = 5
		}
		d.Arm(want+1, nil)
		ok(t, got.Set("value"))
		if d.Sync(9) != api.ErrDown {
			t.Errorf("%s: Set makes fewer than %d calls", c.name, want)
		}
	}
}

// P5.3: what a lost sync leaves behind: nothing but, if the cell is sure, the bytes in the other slot.
func TestLost(t *testing.T) {
	d := disk.New()
	ok(t, open(t, d, 3).Set("old"))
	before := content(t, d, 3)
	c := open(t, d, 3)
	d.Lose(1)
	if e := c.Set("one"); e != api.ErrLost || content(t, d, 3) != before {
		t.Errorf("the sync of the header is lost: %d, %d bytes", e, d.Size(3))
	}
	has(t, c, "old")
	ok(t, c.Set("two"))
	d.Lose(1)
	if e := c.Set("three"); e != api.ErrLost || content(t, d, 3) != layout("\x02\x03\x00\x00\x00", "three", "two") {
		t.Errorf("the sync of the value is lost: %d, %.80q", e, content(t, d, 3))
	}
	has(t, c, "two")
	has(t, open(t, d, 3), "two")
	d.Lose(1)
	if e := c.Set(""); e != api.ErrLost {
		t.Errorf("the sync after no bytes is lost: %d", e)
	}
	has(t, c, "two")
	ok(t, c.Set("four"))
	if content(t, d, 3) != layout("\x01\x04\x00\x00\x00", "foure", "two") {
		t.Errorf("%.80q", content(t, d, 3))
	}
}

// P5.3: if the header is written in the call with which the machine goes down, the step has failed, and the cell keeps its value.
func TestHeaderDown(t *testing.T) {
	for keep, want := range []string{"old", "new"} {
		d := disk.New()
		c := open(t, d, 3)
		ok(t, c.Set("old"))
		d.Arm(3, []int{keep})
		if e := c.Set("new"); e != api.ErrDown {
			t.Errorf("%d", e)
		}
		has(t, c, "old")
		if e := c.Set("more"); e != api.ErrDown {
			t.Errorf("while the machine is down: %d", e)
		}
		has(t, c, "old")
		d.Start()
		has(t, open(t, d, 3), want)
		d.Arm(5, []int{keep})
		c = open(t, d, 3)
		if e := c.Set("last"); e != api.ErrDown {
			t.Errorf("%d", e)
		}
		has(t, c, "last")
	}
}

// P5.3: a header that was not durable when the cell was opened is made so before the value that it replaced is overwritten.
func TestHeaderPending(t *testing.T) {
	old, now, next := strings.Repeat("o", 150), strings.Repeat("c", 180), strings.Repeat("n", 160)
	for n := 1; n <= 6; n++ {
		for _, keep := range subsets(4) {
			d := disk.New()
			for _, s := range []string{old, now} {
				ok(t, open(t, d, 3).Set(s))
			}
			header := content(t, d, 3)[:5]
			ok(t, d.Write(3, 0, "\x01\x96\x00\x00\x00"))
			ok(t, d.Sync(3))
			ok(t, d.Write(3, 0, header))
			c := open(t, d, 3)
			has(t, c, now)
			d.Arm(n, keep)
			e := c.Set(next)
			d.Crash(keep)
			d.Start()
			s, _ := open(t, d, 3).Get()
			if s != old && s != now && s != next || n > 1 && s == old || n < 4 && s == next || e == api.OK && s != next {
				t.Errorf("a crash at %d, %v: %.20q with %d bytes", n, keep, s, len(s))
			}
		}
	}
}

// subsets returns all lists of n numbers that are 0 or 1.
func subsets(n int) [][]int {
	l := make([][]int, 1<<n)
	for i := range l {
		for k := range n {
			l[i] = append(l[i], i>>k&1)
		}
	}
	return l
}

// history is a disk with a cell in the file 3, and the values that a crash may leave.
type history struct {
	d     *disk.Disk
	c     *cell.Cell
	last  string   // that of the last Set that returned OK, or of the opening
	later []string // those of later ones, which returned errors of the disk
	count int
}

// state returns the value of a cell with a sign before it, or "none".
func state(c *cell.Cell) string {
	s, there := c.Get()
	if !there {
		return "none" + s
	}
	return "=" + s
}

func newHistory(t *testing.T) *history {
	d := disk.New()
	return &history{d: d, c: open(t, d, 3), last: "none"}
}

// allowed reports whether a crash may leave this state.
func (h *history) allowed(s string) bool { return s == h.last || slices.Contains(h.later, s) }

// set sets another value; if the machine goes down with it, it starts again.
func (h *history) set(t *testing.T, size int) {
	t.Helper()
	h.count++
	s := strings.Repeat(string(rune('!'+h.count%90)), size)
	switch e := h.c.Set(s); e {
	case api.OK:
		h.last, h.later = "="+s, nil
		h.durable(t)
	case api.ErrDown, api.ErrLost:
		h.later = append(h.later, "="+s)
	default:
		t.Fatalf("Set returns %d", e)
	}
	h.d.Arm(0, nil)
	h.d.Lose(0)
	if h.d.Down() {
		h.restart(t)
	}
}

// restart opens the cell after a crash.
func (h *history) restart(t *testing.T) {
	t.Helper()
	h.d.Start()
	h.reopen(t)
	h.last, h.later = state(h.c), nil
}

// reopen opens the cell, whose value has to be one of those that are allowed.
func (h *history) reopen(t *testing.T) {
	t.Helper()
	h.c = open(t, h.d, 3)
	if got := state(h.c); !h.allowed(got) {
		t.Fatalf("the value is %.80q, not %.80q or one of %.80q", got, h.last, h.later)
	}
}

// check crashes copies of the disk, whose cells have to have an allowed value then.
func (h *history) check(t *testing.T, keeps ...[]int) {
	t.Helper()
	for _, keep := range keeps {
		d := h.d.Copy()
		d.Crash(keep)
		d.Start()
		if got := state(open(t, d, 3)); !h.allowed(got) {
			t.Fatalf("a crash with %v leaves %.80q, not %.80q or one of %.80q", keep, got, h.last, h.later)
		}
	}
}

// durable checks that a crash changes nothing.
func (h *history) durable(t *testing.T) {
	t.Helper()
	for _, keep := range [][]int{nil, {1}} {
		d := h.d.Copy()
		d.Crash(keep)
		d.Start()
		if content(t, d, 3) != content(t, h.d, 3) || state(open(t, d, 3)) != h.last {
			t.Fatalf("a crash with %v changes something after a Set that returned OK", keep)
		}
	}
}

// P5.4, P5.5: all short sequences of values, with a lost sync or a crash at each step of each of them.
func TestShortHistories(t *testing.T) {
	for _, before := range []int{0, 2} {
		for _, a := range faults() {
			for _, b := range faults() {
				h := newHistory(t)
				for range before {
					h.set(t, 150)
				}
				for _, f := range []fault{a, b} {
					f.set(h.d)
					h.set(t, 200)
					h.check(t, nil, []int{0, 1}, []int{1, 0, 0})
				}
				h.set(t, 5)
			}
		}
	}
}

// P5.4: a crash with any of the sectors that a Set leaves pending.
func TestAllSectors(t *testing.T) {
	for before := range 4 {
		for n := range 6 {
			for _, keep := range subsets(5) {
				h := newHistory(t)
				for range before {
					h.set(t, 250)
				}
				fault{n: n, keep: keep}.set(h.d)
				h.set(t, 230)
				h.set(t, 9)
			}
		}
		h := newHistory(t)
		for range before {
			h.set(t, 250)
		}
		h.d.Lose(1)
		h.set(t, 230)
		h.check(t, subsets(5)...)
	}
}

// P5.4, P5.5: long sequences of values, with lost syncs, crashes and openings.
func TestLongHistories(t *testing.T) {
	for seed := range 60 {
		next := numbers(uint64(seed))
		h := newHistory(t)
		for range 40 {
			keep := []int{next(2), next(2), next(2), next(2), next(2)}[:next(6)]
			switch next(8) {
			case 0:
				h.d.Crash(keep)
				h.restart(t)
			case 1:
				h.reopen(t)
			case 2:
				h.d.Lose(1 + next(2))
			case 3, 4:
				h.d.Arm(1+next(6), keep)
			}
			h.set(t, []int{0, 1, 63, 64, 65, 200, 300, cell.Max}[next(8)])
			h.check(t, nil, keep)
		}
	}
}

// numbers returns a function that yields a fixed sequence of numbers.
func numbers(seed uint64) func(n int) int {
	return func(n int) int {
		seed = seed*6364136223846793005 + 1442695040888963407
		return int(seed>>33) % n
	}
}
