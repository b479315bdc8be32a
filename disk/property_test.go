package disk_test

import (
	"slices"
	"strings"
	"testing"

	"errata/api"
	"errata/disk"
)

// calls are those of the sequences that are compared with the model.
func calls() []func(m machine) api.Errno {
	set := func(f func(m machine)) func(machine) api.Errno {
		return func(m machine) api.Errno { f(m); return api.OK }
	}
	return []func(m machine) api.Errno{
		func(m machine) api.Errno { return m.Write(0, 0, "ab") },
		func(m machine) api.Errno { return m.Write(0, 1, "XYZ") },
		func(m machine) api.Errno { return m.Write(0, 63, "cd") },
		func(m machine) api.Errno { return m.Write(0, 150, "e") },
		func(m machine) api.Errno { return m.Write(1, 70, "") },
		func(m machine) api.Errno { return m.Write(1, 2, "f") },
		func(m machine) api.Errno { return m.Write(16, 0, "g") },
		func(m machine) api.Errno { return m.Sync(0) },
		func(m machine) api.Errno { return m.Sync(1) },
		func(m machine) api.Errno { return m.Truncate(0, 1) },
		func(m machine) api.Errno { return m.Truncate(0, 64) },
		set(func(m machine) { m.Lose(1) }),
		set(func(m machine) { m.Arm(2, []int{0, 1}) }),
		set(func(m machine) { m.Arm(0, nil) }),
		set(func(m machine) { m.Crash(nil) }),
		set(func(m machine) { m.Crash([]int{1, 0}) }),
		set(func(m machine) { m.Start() }),
	}
}

// same reports whether all that can be seen of the two is the same, for the files 0 and 1.
func same(d *disk.Disk, m *model) bool {
	for f := range 2 {
		s, e := d.Read(f, 0, 1000)
		want, wanted := m.Read(f, 0, 1000)
		if s != want || e != wanted || d.Size(f) != m.Size(f) {
			return false
		}
	}
	return d.Down() == m.Down()
}

// sameAfter reports whether the two are the same after crashes, too.
func sameAfter(d *disk.Disk, m *model) bool {
	for _, keep := range [][]int{nil, {1}, {0, 1}} {
		c, n := d.Copy(), m.copy()
		for _, x := range []machine{c, n} {
			x.Crash(keep)
			x.Start()
		}
		if !same(c, n) || c.Sync(0) != n.Sync(0) {
			return false
		}
	}
	return true
}

// P4.1 to P4.4: all short sequences of calls against the chapter's definitions.
func TestSequences(t *testing.T) {
	all := calls()
	var walk func(d *disk.Disk, m *model, path []int)
	walk = func(d *disk.Disk, m *model, path []int) {
		if len(path) == 4 {
			if !sameAfter(d, m) {
				t.Fatalf("crashes after the calls %v", path)
			}
			return
		}
		for i, call := range all {
			c, n := d.Copy(), m.copy()
			next := append(slices.Clip(path), i)
			if e, want := call(c), call(n); e != want || !same(c, n) {
				t.Fatalf("the calls %v: the last one returns %d, not %d, or they differ", next, e, want)
			}
			walk(c, n, next)
		}
		if !same(d, m) {
			t.Fatalf("the calls %v: a copy changes the disk", path)
		}
	}
	walk(disk.New(), &model{}, nil)
}

// numbers returns a function that yields a fixed sequence of numbers.
func numbers(seed uint64) func(n int) int {
	return func(n int) int {
		seed = seed*6364136223846793005 + 1442695040888963407
		return int(seed>>33) % n
	}
}

// change makes one of the calls that can change a file.
func change(next func(int) int, l ...machine) (e []api.Errno) {
	kind, f, at, size, n := next(12), next(2), next(400), next(150), next(500)
	s := strings.Repeat(string(rune('a'+next(26))), size)
	for _, m := range l {
		switch kind {
		case 0:
			e = append(e, m.Sync(f))
		case 1:
			e = append(e, m.Truncate(f, n))
		case 2:
			m.Lose(n % 3)
		default:
			e = append(e, m.Write(f, at, s))
		}
	}
	return e
}

// P4.1 to P4.4: long sequences against the chapter's definitions, with crashes and schedules.
func TestLongSequences(t *testing.T) {
	for seed := range 300 {
		next := numbers(uint64(seed))
		d, m := disk.New(), &model{}
		for step := range 150 {
			kind, keep, n := next(25), []int{next(3), next(2), next(2), next(5)}[:next(5)], next(12)
			switch kind {
			case 0:
				d.Crash(keep)
				m.Crash(keep)
			case 1:
				d.Arm(n, keep)
				m.Arm(n, keep)
			case 2:
				d = d.Copy()
			case 3, 4, 5:
				d.Start()
				m.Start()
			default:
				if e := change(next, d, m); len(e) == 2 && e[0] != e[1] {
					t.Fatalf("the sequence %d: the call %d returns %d, not %d", seed, step, e[0], e[1])
				}
			}
			if !same(d, m) || step%10 == 0 && !sameAfter(d, m) {
				t.Fatalf("the sequence %d differs after the call %d", seed, step)
			}
		}
	}
}

// P4.5: each byte is an old one, a new one, or 0, and the size lies between the old one and the new one.
func TestTorn(t *testing.T) {
	for seed := range 300 {
		next := numbers(uint64(seed))
		d := disk.New()
		for range 1 + next(20) {
			change(next, d)
		}
		keep := []int{next(2), next(2), next(2), next(2), next(2)}[:next(6)]
		for f := range 2 {
			now, old, got := content(t, d, f), after(t, d, f), after(t, d, f, keep...)
			if len(got) < len(old) || len(got) > len(now) {
				t.Fatalf("%d: %d bytes are durable, %d are there, and %d survive", seed, len(old), len(now), len(got))
			}
			for i := range len(got) {
				if got[i] != now[i] && (i >= len(old) || got[i] != old[i]) && (i < len(old) || got[i] != 0) {
					t.Fatalf("%d: the byte %d of the file %d comes from nowhere", seed, i, f)
				}
			}
		}
	}
}

// P4.5: a sector survives wholly or not at all, whichever others do.
func TestSectors(t *testing.T) {
	d := disk.New()
	for f := range 2 {
		ok(t, d.Write(f, 0, strings.Repeat("o", 256)))
		ok(t, d.Sync(f))
	}
	ok(t, d.Write(0, 32, strings.Repeat("n", 128)))
	ok(t, d.Write(1, 100, strings.Repeat("n", 200)))
	first := []string{strings.Repeat("o", 32) + strings.Repeat("n", 32), strings.Repeat("n", 64), strings.Repeat("n", 32) + strings.Repeat("o", 32)}
	second := []string{strings.Repeat("o", 36) + strings.Repeat("n", 28), strings.Repeat("n", 64), strings.Repeat("n", 64), strings.Repeat("n", 44)}
	for set := range 1 << 7 {
		var keep []int
		for i := range 7 {
			keep = append(keep, set>>i&1)
		}
		a, b := []string{"", "", "", strings.Repeat("o", 64)}, []string{strings.Repeat("o", 64), "", "", "", ""}
		for i := range 3 {
			a[i] = []string{strings.Repeat("o", 64), first[i]}[keep[i]]
		}
		for i := range 4 {
			b[i+1] = []string{strings.Repeat("o", 64), second[i]}[keep[i+3]]
		}
		if keep[6] == 0 {
			b[4] = ""
		}
		if after(t, d, 0, keep...) != strings.Join(a, "") || after(t, d, 1, keep...) != strings.Join(b, "") {
			t.Fatalf("the sectors %v", keep)
		}
	}
}

// P4.5: Truncate is atomic: a crash with it leaves the file as before or as after it.
func TestTruncateAtomic(t *testing.T) {
	for size := range 201 {
		for _, keep := range []int{0, 1} {
			d := disk.New()
			ok(t, d.Write(0, 0, strings.Repeat("o", 200)))
			ok(t, d.Sync(0))
			d.Arm(1, []int{keep})
			if d.Truncate(0, size) != api.ErrDown || d.Size(0) != 200 {
				t.Fatalf("a truncation to %d with a crash: %d bytes", size, d.Size(0))
			}
			d.Start()
			ok(t, d.Truncate(0, size))
			if after(t, d, 0, keep) != strings.Repeat("o", size) {
				t.Fatalf("a truncation to %d is lost", size)
			}
		}
	}
}

// P4.6: no crash touches what was synced and not written since.
func TestSynced(t *testing.T) {
	for seed := range 300 {
		next := numbers(uint64(seed))
		d := disk.New()
		for range 5 {
			change(next, d)
		}
		d.Lose(0)
		ok(t, d.Sync(0))
		synced := content(t, d, 0)
		written := map[int]bool{}
		for range next(6) {
			at, size := next(500), next(80)
			ok(t, d.Write(0, at, strings.Repeat("!", size)))
			for i := range size {
				written[at+i] = true
			}
		}
		d.Lose(1)
		d.Sync(0)
		for _, keep := range [][]int{nil, {1}, {0, 1}, {1, 0}, {1, 1, 0}} {
			got := after(t, d, 0, keep...)
			for i := range synced {
				if !written[i] && got[i] != synced[i] {
					t.Fatalf("%d, %v: the byte %d was synced, and is %q", seed, keep, i, got[i])
				}
			}
		}
	}
}
