package journal_test

import (
	"slices"
	"strconv"
	"strings"
	"testing"

	"errata/api"
	"errata/cell"
	"errata/disk"
	"errata/journal"
)

const base = 3 // the tests of this file have a journal with this base

// formOf returns the form of a list as the chapter defines it.
func formOf(l []string) string {
	s := ""
	for _, e := range l {
		s += strconv.Itoa(len(e)) + ":" + e + ","
	}
	return s
}

// change appends strings, or cuts the list to a number of them.
type change struct {
	add   []string
	cut   int
	isCut bool
}

// after returns what a list is after the change.
func (c change) after(l []string) []string {
	if c.isCut {
		return slices.Clone(l[:c.cut])
	}
	return slices.Concat(l, c.add)
}

func (c change) make(j *journal.Journal) api.Errno {
	if c.isCut {
		return j.Cut(c.cut)
	}
	return j.Append(c.add)
}

// model is a journal as the chapter defines it, call by call.
type model struct {
	d      *disk.Disk
	c      *cell.Cell
	list   []string
	failed bool
}

// open opens the model, whose list is known.
func (m *model) open() api.Errno {
	for _, f := range []int{base, base + 1} {
		if e := m.d.Sync(f); e != api.OK {
			return e
		}
	}
	c, e := cell.Open(m.d, base+1)
	m.c, m.failed = c, false
	return e
}

func (m *model) make(c change) api.Errno {
	list := c.after(m.list)
	switch {
	case m.failed:
		return api.ErrState
	case len(list) == len(m.list):
		return api.OK
	}
	e := api.Errno(api.OK)
	if !c.isCut {
		e = m.d.Write(base, len(formOf(m.list)), formOf(c.add))
		if e == api.OK {
			e = m.d.Sync(base)
		}
	}
	if e == api.OK {
		e = m.c.Set(strconv.Itoa(len(formOf(list))) + ";" + strconv.Itoa(len(list)) + ";")
	}
	m.failed = e != api.OK
	if e == api.OK {
		m.list = list
	}
	return e
}

// sameDisk reports whether two disks have the same bytes, now and after crashes.
func sameDisk(t *testing.T, a, b *disk.Disk) bool {
	t.Helper()
	if a.Down() || b.Down() {
		return a.Down() && b.Down()
	}
	return sameFiles(t, a, b) && sameFiles(t, crashed(a, nil), crashed(b, nil)) && sameFiles(t, crashed(a, []int{0, 1}), crashed(b, []int{0, 1}))
}

func sameFiles(t *testing.T, a, b *disk.Disk) bool {
	t.Helper()
	for f := range 16 {
		if content(t, a, f) != content(t, b, f) {
			return false
		}
	}
	return true
}

// crashed returns a copy of a disk after a crash.
func crashed(d *disk.Disk, keep []int) *disk.Disk {
	x := d.Copy()
	x.Crash(keep)
	x.Start()
	return x
}

// fault is a crash that is scheduled, or syncs that are lost.
type fault struct {
	n    int
	keep []int
	lost int
}

func faults(calls int) []fault {
	l := []fault{{}, {lost: 1}, {lost: 2}, {n: 2, lost: 1}}
	for n := 1; n <= calls; n++ {
		for _, keep := range [][]int{nil, {1}, {0, 1}, {1, 0, 0}} {
			l = append(l, fault{n: n, keep: keep})
		}
	}
	return l
}

func (f fault) set(d *disk.Disk) {
	d.Arm(f.n, f.keep)
	d.Lose(f.lost)
}

// starts are lists of changes that were made, to a journal that is opened anew after some of them.
func starts() [][]change {
	long := change{add: []string{strings.Repeat("p", 150), "q", ""}}
	return [][]change{
		nil,
		{long},
		{long, {add: []string{"r"}}},
		{long, {isCut: true, cut: 1}},
		{long, {isCut: true, cut: 0}},
		{long, {isCut: true, cut: 2}, {add: []string{"ss"}}},
	}
}

// P6.1 to P6.4: Open, Append and Cut make the calls that the chapter says, in their order, and stop at the first one that fails.
func TestCalls(t *testing.T) {
	next := [][]change{
		{{add: []string{strings.Repeat("n", 200), "o"}}, {add: []string{"third"}}},
		{{isCut: true, cut: 0}, {add: []string{strings.Repeat("n", 70)}}},
		{{}, {add: []string{""}}},
	}
	for i, s := range starts() {
		for k, n := range next {
			for _, f := range faults(8) {
				for _, reopened := range []bool{false, true} {
					compare(t, s, n, f, reopened)
					if t.Failed() {
						t.Fatalf("the start %d, the changes %d, %v, opened anew: %v", i, k, f, reopened)
					}
				}
			}
		}
	}
}

// compare makes changes to a journal and to the model of one, with a fault from the second list of changes on, or from an opening before them.
func compare(t *testing.T, before, after []change, f fault, reopened bool) {
	t.Helper()
	d, m := disk.New(), &model{d: disk.New()}
	j := open(t, d, base)
	ok(t, m.open())
	for _, c := range before {
		ok(t, c.make(j))
		ok(t, m.make(c))
	}
	f.set(d)
	f.set(m.d)
	if reopened {
		k, e := journal.Open(d, base)
		if want := m.open(); e != want || (k == nil) != (e != api.OK) || !sameDisk(t, d, m.d) {
			t.Errorf("Open returns %v, %d, not %d, or the disk is another one", k, e, want)
		}
		if e != api.OK {
			return
		}
		j = k
	}
	for i, c := range after {
		e, want := c.make(j), m.make(c)
		if e != want || !sameDisk(t, d, m.d) {
			t.Errorf("the change %d returns %d, not %d, or the disk is another one", i, e, want)
		}
		has(t, j, m.list...)
	}
	d.Start()
	m.d.Start()
	if !sameDisk(t, d, m.d) {
		t.Error("the disk is another one")
	}
}

// P6.2, P6.3: how many calls of the disk there are: those of a cell are four, and one more after it was opened with a value.
func TestCount(t *testing.T) {
	for i, s := range starts() {
		for _, c := range []change{{add: []string{"a", "b"}}, {isCut: true}} {
			for reopened := range 2 {
				d := disk.New()
				j := open(t, d, base)
				list := []string{}
				for _, b := range s {
					ok(t, b.make(j))
					list = b.after(list)
				}
				if reopened == 1 {
					j = open(t, d, base)
				}
				want := 6
				if c.isCut {
					want = 4
				}
				if len(s) > 0 {
					want += reopened
				}
				if c.isCut && len(list) == 0 {
					want = 0
				}
				d.Arm(want+1, nil)
				ok(t, c.make(j))
				if d.Sync(9) != api.ErrDown {
					t.Errorf("the start %d, %v, opened anew: %d: fewer than %d calls", i, c, reopened, want)
				}
			}
		}
	}
}

// history is a disk with a journal, and the lists that a crash may leave.
type history struct {
	d     *disk.Disk
	j     *journal.Journal
	last  []string   // that after the last call that returned OK
	later [][]string // that which a call after it would have left, which returned an error
	count int
}

func newHistory(t *testing.T) *history {
	d := disk.New()
	return &history{d: d, j: open(t, d, base)}
}

// allowed reports whether a crash may leave this list.
func (h *history) allowed(l []string) bool {
	return slices.Equal(l, h.last) || slices.ContainsFunc(h.later, func(e []string) bool { return slices.Equal(e, l) })
}

// add appends new strings with these lengths.
func (h *history) add(t *testing.T, sizes ...int) {
	t.Helper()
	var l []string
	for _, n := range sizes {
		h.count++
		l = append(l, strings.Repeat(string(rune('!'+h.count%90)), n))
	}
	h.make(t, change{add: l})
}

// cut cuts off strings from the end of the list.
func (h *history) cut(t *testing.T, n int) {
	t.Helper()
	h.make(t, change{isCut: true, cut: max(len(h.last)-n, 0)})
}

// make makes a change, and opens the journal anew if it fails.
func (h *history) make(t *testing.T, c change) {
	t.Helper()
	before, after := h.last, c.after(h.last)
	switch e := c.make(h.j); e {
	case api.OK:
		h.last, h.later = after, nil
		has(t, h.j, after...)
		h.check(t, nil, []int{1}, []int{0, 1}, []int{1, 0, 0})
	case api.ErrDown, api.ErrLost:
		h.later = [][]string{after}
		has(t, h.j, before...)
		if e == api.ErrLost {
			h.check(t, nil, []int{1}, []int{0, 1}, []int{1, 0, 0})
		}
		h.open(t, fault{})
	default:
		t.Fatalf("the change returns %d", e)
	}
}

// open opens the journal, with a fault first.
func (h *history) open(t *testing.T, f fault) {
	t.Helper()
	h.d.Start()
	f.set(h.d)
	j, e := journal.Open(h.d, base)
	for try := 0; e != api.OK; try++ {
		if e != api.ErrDown && e != api.ErrLost || try > 4 {
			t.Fatalf("Open returns %d", e)
		}
		h.d.Start()
		h.check(t, nil, []int{1})
		j, e = journal.Open(h.d, base)
	}
	h.d.Arm(0, nil)
	h.d.Lose(0)
	l := j.All()
	if !h.allowed(l) {
		t.Fatalf("the list is %.200q, not %.200q or one of %.200q", l, h.last, h.later)
	}
	h.j, h.last, h.later = j, l, nil
	h.check(t, nil, []int{1})
}

// check crashes copies of the disk, whose journals have to have an allowed list then.
func (h *history) check(t *testing.T, keeps ...[]int) {
	t.Helper()
	for _, keep := range keeps {
		x := h.d.Copy()
		x.Arm(0, nil)
		x.Lose(0)
		if l := open(t, crashed(x, keep), base).All(); !h.allowed(l) {
			t.Fatalf("a crash with %v leaves %.200q, not %.200q or one of %.200q", keep, l, h.last, h.later)
		}
	}
}

// subsets returns all lists of n numbers that are 0 or 1.
func subsets(n int) [][]int {
	l := make([][]int, 1<<n)
	for i := range l {
		for k := range n {
			l[i] = append(l[i], i>>k&1)
		}
	}
	return l
}

// P6.6, P6.7: a crash at each call of a change, with any of the sectors that it leaves pending.
func TestAllSectors(t *testing.T) {
	for before := range 3 {
		for n := 1; n <= 6; n++ {
			for _, keep := range subsets(4) {
				h := newHistory(t)
				h.add(t, 100, 3)
				if before == 1 {
					h.cut(t, 1)
				} else if before == 2 {
					h.open(t, fault{})
				}
				fault{n: n, keep: keep}.set(h.d)
				h.add(t, 150, 0, 20)
				h.d.Arm(0, nil)
				h.add(t, 7)
			}
		}
	}
}

// P6.6, P6.7: what a lost sync leaves pending, with a crash then, or while the journal is opened.
func TestLost(t *testing.T) {
	for _, keep := range subsets(4) {
		for _, f := range []fault{{}, {n: 1, keep: keep}, {n: 2, keep: keep}, {lost: 1}, {lost: 2}, {n: 2, keep: keep, lost: 1}} {
			h := newHistory(t)
			h.add(t, 100, 3)
			h.d.Lose(1)
			after := change{add: []string{strings.Repeat("l", 150)}}
			if e := after.make(h.j); e != api.ErrLost {
				t.Fatalf("Append returns %d", e)
			}
			h.later = [][]string{after.after(h.last)}
			h.check(t, subsets(3)...)
			h.open(t, f)
			h.add(t, 5)
		}
	}
}

// P6.6, P6.7: all short sequences of changes, with a lost sync or a crash at each call of each of them.
func TestShortHistories(t *testing.T) {
	for kind := range 4 {
		for _, a := range faults(6) {
			for _, b := range faults(6) {
				h := newHistory(t)
				h.add(t, 60, 1)
				for i, f := range []fault{a, b} {
					f.set(h.d)
					if kind>>i&1 == 0 {
						h.add(t, 70, 0)
					} else {
						h.cut(t, 1)
					}
					h.d.Arm(0, nil)
					h.d.Lose(0)
				}
			}
		}
	}
}

// P6.6, P6.7: long sequences of changes, with lost syncs, crashes and openings.
func TestLongHistories(t *testing.T) {
	for seed := range 40 {
		next := numbers(uint64(seed))
		h := newHistory(t)
		for range 40 {
			keep := []int{next(2), next(2), next(2), next(2), next(2)}[:next(6)]
			switch next(9) {
			case 0:
				h.d.Crash(keep)
				h.open(t, fault{n: next(3), keep: keep})
			case 1:
				h.open(t, fault{lost: next(3)})
			case 2:
				h.d.Lose(1 + next(2))
			case 3, 4, 5:
				h.d.Arm(1+next(8), keep)
			}
			if next(3) == 0 {
				h.cut(t, next(4))
			} else {
				h.add(t, []int{0, 1, 9, 10, 63, 64, 130}[next(7)], next(90))
			}
		}
	}
}

// numbers returns a function that yields a fixed sequence of numbers.
func numbers(seed uint64) func(n int) int {
	return func(n int) int {
		seed = seed*6364136223846793005 + 1442695040888963407
		return int(seed>>33) % n
	}
}
