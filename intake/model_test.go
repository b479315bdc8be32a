package intake_test

import (
	"slices"
	"strconv"
	"testing"

	"errata/api"
	"errata/intake"
	"errata/producer"
	"errata/value"
)

// model is a partition as the chapter defines it, word by word, that forgets nothing.
type model struct {
	config            api.Config
	known             []api.Known
	now, top, refused int
	times             []int // the event times of the accepted records, by their positions
	table             []api.Producer
}

func newModel(c api.Config, known []api.Known) model {
	return model{config: c, known: known, top: -1}
}

func (m model) closed() int { return max(m.top-m.config.Late-1, -1) }
func (m model) mark() int   { return max(m.top-m.config.Delay-1, -1) }

// count counts the records of a time that is not closed.
func (m model) count(time int) int {
	n := 0
	for _, other := range m.times {
		if other == time && time > m.closed() {
			n++
		}
	}
	return n
}

// columns returns the columns of a version of a source.
func (m model) columns(e api.Entry) (api.Known, bool) {
	for _, k := range m.known {
		if k.Source == e.Source && k.Schema == e.Schema {
			return k, true
		}
	}
	return api.Known{}, false
}

// fits reports whether a row has the columns of a version of a source.
func fits(row []api.Value, cols []api.Col) bool {
	if !value.RightRow(row) || len(row) != len(cols) {
		return false
	}
	for i, v := range row {
		if v.Kind != cols[i].Type {
			return false
		}
	}
	return true
}

// put returns the first error of a record after those of Look.
func (m model) put(e api.Entry) api.Errno {
	k, found := m.columns(e)
	if e.Time < 0 || e.Time > last {
		return api.ErrRange
	}
	if !found {
		return api.ErrSchema
	}
	if !fits(e.Row, k.Cols) {
		return api.ErrShape
	}
	if e.Time <= m.closed() {
		return api.ErrLate
	}
	if e.Time > m.now+m.config.Ahead {
		return api.ErrAhead
	}
	if m.count(e.Time) == m.config.Rate {
		return api.ErrRate
	}
	return api.OK
}

// apply returns the partition after an entry, and the results.
func (m model) apply(e api.Entry) (model, int, api.Errno) {
	switch e.Kind {
	case api.EnPut:
		n, errno := producer.Look(m.table, e)
		if errno == api.ErrTwice {
			return m, n, errno
		}
		if errno == api.OK {
			errno = m.put(e)
		}
		if errno != api.OK {
			m.refused++
			return m, 0, errno
		}
		pos := len(m.times)
		m.table = producer.Put(m.table, e, pos)
		m.times = append(slices.Clone(m.times), e.Time)
		m.top = max(m.top, e.Time)
		return m, pos, api.OK
	case api.EnFence:
		s, epoch, errno := producer.Fence(m.table, e.Producer)
		if errno == api.OK {
			m.table = s
		}
		return m, epoch, errno
	case api.EnIdle, api.EnNow:
		if e.Time < 0 || e.Time > last {
			return m, 0, api.ErrRange
		}
		if e.Kind == api.EnNow {
			m.now = max(m.now, e.Time)
			return m, 0, api.OK
		}
		if e.Time > m.now+m.config.Ahead {
			return m, 0, api.ErrAhead
		}
		m.top = max(m.top, e.Time)
		return m, 0, api.OK
	}
	return m, 0, api.ErrArg
}

// bytes returns the encoding.
func (m model) bytes() string {
	var s string
	for _, n := range []int{m.now, m.top, len(m.times), m.refused} {
		s += strconv.Itoa(n) + ";"
	}
	body := producer.Bytes(m.table)
	s += strconv.Itoa(len(body)) + ":" + body + ","
	counted, counts := 0, ""
	times := slices.Compact(slices.Sorted(slices.Values(m.times)))
	for _, time := range times {
		if n := m.count(time); n > 0 {
			counted++
			counts += strconv.Itoa(time) + ";" + strconv.Itoa(n) + ";"
		}
	}
	return s + strconv.Itoa(counted) + ";" + counts
}

// compare compares a partition with the model.
func compare(t *testing.T, x *intake.Intake, m model) {
	t.Helper()
	got := [...]int{x.Now(), x.Top(), x.Closed(), x.Mark(), x.Next(), x.Refused()}
	if want := [...]int{m.now, m.top, m.closed(), m.mark(), len(m.times), m.refused}; got != want {
		t.Fatalf("%v, not %v", got, want)
	}
	if got, want := table(x.Producers()), table(m.table); got != want {
		t.Fatalf("producers %s, not %s", got, want)
	}
	if got, want := x.Bytes(), m.bytes(); got != want {
		t.Fatalf("%q, not %q", got, want)
	}
}

// step applies an entry to both, and compares what comes of it.
func step(t *testing.T, x *intake.Intake, m model, e api.Entry) (model, api.Errno) {
	t.Helper()
	after, n, errno := m.apply(e)
	if got, gotErrno := x.Check(e); got != n || gotErrno != errno {
		t.Fatalf("Check of %v after %q: %d and %v, not %d and %v", e, m.bytes(), got, gotErrno, n, errno)
	}
	compare(t, x, m)
	if got, gotErrno := x.Apply(e); got != n || gotErrno != errno {
		t.Fatalf("Apply of %v after %q: %d and %v, not %d and %v", e, m.bytes(), got, gotErrno, n, errno)
	}
	compare(t, x, after)
	return after, errno
}

// few are the entries of the sequences that are compared with the model; a Seq of -2 stands for the next one.
func few() []api.Entry {
	other := put(-2, 2)
	other.Producer = 3
	next := put(-2, 3)
	next.Epoch = 1
	text := put(-2, 2)
	text.Row = []api.Value{{Kind: api.VText}}
	l := []api.Entry{put(0, 1), put(1, 0), other, next, text, fence(7), idle(2), idle(4), clock(2)}
	for _, time := range []int{-1, 0, 1, 2, 3, 5} {
		l = append(l, put(-2, time))
	}
	return l
}

// upcoming returns the sequence number that comes next of the producer.
func (m model) upcoming(id int) int {
	for _, p := range m.table {
		if p.Id == id {
			return p.Next
		}
	}
	return 0
}

// P11.2 to P11.5: all short sequences of entries against the chapter's definitions.
func TestSequences(t *testing.T) {
	entries := few()
	for _, c := range []api.Config{{Ahead: 3, Rate: 1}, {Late: 1, Ahead: 3, Rate: 2}, {Delay: 1, Late: 2, Ahead: 3, Rate: 1}} {
		var walk func(x *intake.Intake, m model, more int)
		walk = func(x *intake.Intake, m model, more int) {
			for time := -2; time < 8; time++ {
				if got, want := x.Count(time), m.count(time); got != want {
					t.Fatalf("%q: %d of the time %d, not %d", m.bytes(), got, time, want)
				}
			}
			if more == 0 {
				return
			}
			for _, e := range entries {
				if e.Kind == api.EnPut && e.Seq == -2 {
					e.Seq = m.upcoming(e.Producer)
				}
				y := x.Copy()
				after, _ := step(t, y, m, e)
				walk(y, after, more-1)
			}
		}
		walk(begin(t, c, known()), newModel(c, known()), 3)
	}
}

// numbers returns a function for numbers from 0 to n-1 that look random.
func numbers(seed uint64) func(n int) int {
	return func(n int) int {
		seed = seed*6364136223846793005 + 1442695040888963407
		return int(seed>>33) % n
	}
}

// schemas are known columns of several versions of two sources.
func schemas() []api.Known {
	return append(known(),
		api.Known{Source: "s", Schema: 2, Cols: []api.Col{{Name: "a"}, {Name: "b", Type: api.VText}}},
		api.Known{Source: "r", Schema: 1, Cols: []api.Col{{Name: "t", Type: api.VBool}}},
		api.Known{Source: "r", Schema: 1, Cols: []api.Col{{Name: "a"}}})
}

// chance returns an entry that is mostly right for a partition.
func chance(next func(n int) int, m model, producers int) api.Entry {
	limit := m.now + m.config.Ahead
	time := max(m.top, 0) + next(7) - 3
	switch next(8) {
	case 0:
		time = m.closed() + next(3)
	case 1:
		time = limit + next(3) - 1
	}
	switch next(30) {
	case 0, 1:
		return idle(time)
	case 2, 3, 4:
		return clock(m.now + next(2*m.config.Ahead+3) - 1)
	case 5:
		return fence(next(producers))
	case 6:
		return api.Entry{Kind: next(7) - 1, Producer: next(producers), Time: time}
	}
	e := put(0, time)
	e.Producer = next(producers)
	e.Seq = m.upcoming(e.Producer)
	for _, p := range m.table {
		if p.Id == e.Producer {
			e.Epoch = p.Epoch
		}
	}
	switch next(12) {
	case 0:
		e.Seq += next(4) - 2
	case 1:
		e.Epoch += next(3) - 1
	case 2:
		e.Source = []string{"r", "s", "q"}[next(3)]
		e.Schema = next(4)
		e.Row = []api.Value{{Kind: next(4), N: next(3)}}
	case 3:
		e.Schema, e.Row = 2, []api.Value{{N: next(9)}, {Kind: next(2), S: "x"}}
	}
	return e
}

// P11.2 to P11.5: long sequences of entries, with copies and encodings in between, for several configurations.
func TestLongSequences(t *testing.T) {
	configs := []api.Config{
		{Ahead: 10, Rate: 2},
		{Late: 3, Ahead: 4, Rate: 1},
		{Delay: 5, Late: 20, Ahead: 30, Rate: 3},
		{Delay: 1, Late: 10000, Ahead: 10000, Rate: 1},
		{Delay: 2, Late: 7, Ahead: 2000, Rate: 20},
		{Delay: 4, Late: 4, Ahead: 0, Rate: 3},
	}
	seen := map[api.Errno]int{}
	for seed := range 18 {
		next := numbers(uint64(seed))
		c := configs[seed%len(configs)]
		x, m := begin(t, c, schemas()), newModel(c, schemas())
		if seed%4 == 3 {
			x.Apply(clock(last - 40))
			m.now = last - 40
		}
		for range 500 {
			var errno api.Errno
			e := chance(next, m, []int{2, 5, 90}[seed%3])
			m, errno = step(t, x, m, e)
			seen[errno]++
			for range 5 {
				time := m.top + next(20) - 15
				if got, want := x.Count(time), m.count(time); got != want {
					t.Fatalf("%q: %d of the time %d, not %d", m.bytes(), got, time, want)
				}
			}
			switch next(30) {
			case 0:
				x = x.Copy()
			case 1:
				y, ok := intake.Read(c, m.known, x.Bytes())
				if !ok {
					t.Fatalf("%q is not read", x.Bytes())
				}
				x = y
			case 2:
				m.known = schemas()[:next(5)]
				x.Know(m.known)
			case 3:
				m.known = schemas()
				x.Know(m.known)
			}
		}
	}
	for _, errno := range []api.Errno{api.OK, api.ErrArg, api.ErrFenced, api.ErrOrder, api.ErrGap, api.ErrFull, api.ErrTwice, api.ErrRange, api.ErrSchema, api.ErrShape, api.ErrLate, api.ErrAhead, api.ErrRate} {
		if seen[errno] < 20 {
			t.Errorf("%v came only %d times", errno, seen[errno])
		}
	}
}

// P1, P11.2, P11.3: entries with numbers that no entry has, in partitions at both ends of time.
func TestOddEntries(t *testing.T) {
	odd := []int{least, -1, 0, 1, 7, last - 1, last, last + 1, huge}
	for _, now := range []int{0, last} {
		x, m := begin(t, example(), known()), newModel(example(), known())
		m, _ = step(t, x, m, clock(now))
		for kind := -1; kind <= api.EnKinds; kind++ {
			for _, a := range odd {
				for _, b := range odd {
					m, _ = step(t, x, m, api.Entry{Kind: kind, Producer: a, Seq: b, Source: "s", Schema: 1, Time: b, Row: []api.Value{{N: a}}})
					m, _ = step(t, x, m, api.Entry{Kind: kind, Epoch: a, Schema: b, Time: a})
					m, _ = step(t, x, m, api.Entry{Kind: kind, Producer: 7, Seq: m.upcoming(7), Source: "s", Schema: 1, Time: a, Row: []api.Value{{Kind: b % 5, N: a}}})
				}
			}
		}
		if len(m.times) == 0 || m.refused < 100 {
			t.Error("too little happened:", m.bytes())
		}
	}
}
