package intake_test

import (
	"slices"
	"strings"
	"testing"

	"errata/api"
	"errata/intake"
)

// disorder applies entries that come late, often and in any order, and calls a function after each of them with the results.
func disorder(t *testing.T, c api.Config, seed int, after func(x *intake.Intake, e api.Entry, n int, errno api.Errno)) *intake.Intake {
	t.Helper()
	next := numbers(uint64(seed))
	x := begin(t, c, known())
	for i := range 1500 {
		// Producers number what is accepted, and repeat one record in three.
		e := put(0, max(0, x.Top()+next(c.Late+8)-c.Late-4))
		e.Producer = next(4)
		for _, p := range x.Producers() {
			if p.Id == e.Producer {
				e.Epoch, e.Seq = p.Epoch, max(0, p.Next-next(2)*next(3))
			}
		}
		switch next(25) {
		case 0:
			e = idle(x.Now() + next(c.Ahead+2))
		case 1:
			e = fence(e.Producer)
		case 2:
			e.Row = nil
		case 3, 4, 5, 6:
			e = clock(i / 2)
		}
		n, errno := x.Apply(e)
		after(x, e, n, errno)
	}
	return x
}

// rough are configurations for disorder.
func rough() []api.Config {
	return []api.Config{
		{Ahead: 8, Rate: 1},
		{Delay: 3, Late: 3, Ahead: 5, Rate: 2},
		{Delay: 2, Late: 12, Ahead: 10, Rate: 3},
		{Late: 40, Ahead: 30, Rate: 1},
	}
}

// P11.7: what was closed stays as it is; Closed is at most Mark, and neither decreases; no time has more than Rate records.
func TestClosedIsFinal(t *testing.T) {
	for seed := range 24 {
		c := rough()[seed%4]
		closed, mark, late := -1, -1, 0
		counts := map[int]int{}
		x := disorder(t, c, seed, func(x *intake.Intake, e api.Entry, n int, errno api.Errno) {
			if e.Kind == api.EnPut && errno == api.OK {
				counts[e.Time]++
				if e.Time <= closed || counts[e.Time] > c.Rate {
					t.Fatalf("%v is accepted, as number %d of its time, and closed is %d", e, counts[e.Time], closed)
				}
			}
			if errno == api.ErrLate {
				late++
			}
			if x.Closed() < closed || x.Mark() < mark || x.Closed() > x.Mark() {
				t.Fatalf("closed %d, mark %d; before %d, %d", x.Closed(), x.Mark(), closed, mark)
			}
			closed, mark = x.Closed(), x.Mark()
			for time, n := range counts {
				if time <= closed && x.Count(time) != 0 || time > closed && x.Count(time) != n {
					t.Fatalf("%d records of the time %d, not %d; closed is %d", x.Count(time), time, n, closed)
				}
			}
		})
		if x.Next() < 100 || late < 20 || closed < 300 {
			t.Error("too little happened:", x.Next(), late, closed)
		}
	}
}

// P11.8: the accepted records have the positions 0, 1, .., and repetitions are answered with them.
func TestPositions(t *testing.T) {
	type key struct{ id, epoch, seq int }
	for seed := range 12 {
		stored, twice := map[key]int{}, 0
		x := disorder(t, rough()[seed%4], seed, func(x *intake.Intake, e api.Entry, n int, errno api.Errno) {
			k := key{e.Producer, e.Epoch, e.Seq}
			switch {
			case e.Kind == api.EnPut && errno == api.OK:
				if n != len(stored) || x.Next() != n+1 {
					t.Fatalf("%v has the position %d, after %d records", e, n, len(stored))
				}
				stored[k] = n
			case errno == api.ErrTwice:
				twice++
				if at, found := stored[k]; !found || at != n {
					t.Fatalf("%v is said to be at %d, not %d", e, n, at)
				}
			}
		})
		if x.Next() != len(stored) || len(stored) < 100 || twice < 100 {
			t.Error("too little happened:", x.Next(), len(stored), twice)
		}
	}
}

// besides writes the encoding of a partition but for the number of refused records, which is its fourth number.
func besides(x *intake.Intake) string {
	l := strings.SplitN(x.Bytes(), ";", 5)
	return strings.Join(slices.Delete(l, 3, 4), ";")
}

// P11.8: partitions to which the same entries are applied are equal, also if some were copied or read; and without those entries that were refused, but for the number of these.
func TestEqual(t *testing.T) {
	for seed := range 12 {
		c := rough()[seed%4]
		all, accepted := begin(t, c, known()), begin(t, c, known())
		applied := 0
		disorder(t, c, seed, func(x *intake.Intake, e api.Entry, n int, errno api.Errno) {
			if got, gotErrno := all.Apply(e); got != n || gotErrno != errno || all.Bytes() != x.Bytes() {
				t.Fatalf("%v: %d and %v of %q, %d and %v of %q", e, got, gotErrno, all.Bytes(), n, errno, x.Bytes())
			}
			if errno == api.OK {
				if got, gotErrno := accepted.Apply(e); got != n || gotErrno != errno {
					t.Fatalf("%v: %d and %v, not %d and %v", e, got, gotErrno, n, errno)
				}
			}
			if besides(accepted) != besides(x) || accepted.Refused() != 0 {
				t.Fatalf("%q of what is accepted, %q of all", accepted.Bytes(), x.Bytes())
			}
			applied++
			switch {
			case applied%7 == 0:
				all = all.Copy()
			case applied%11 == 0:
				all, _ = intake.Read(c, known(), all.Bytes())
			}
		})
		if accepted.Next() < 100 || all.Refused() < 100 {
			t.Error("too little happened:", accepted.Next(), all.Refused())
		}
	}
}
