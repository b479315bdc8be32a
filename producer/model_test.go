package producer_test

import (
	"slices"
	"strconv"
	"strings"
	"testing"

	"errata/api"
	"errata/producer"
)

// known is what a producer of a table has stored: the positions of all records of its epoch.
type known struct {
	epoch  int
	stored []int
}

// model is a table as the chapter defines it, word by word, by the ids of its producers.
type model map[int]known

// table returns the table.
func (m model) table() []api.Producer {
	var s []api.Producer
	for id, k := range m {
		s = append(s, api.Producer{Id: id, Epoch: k.epoch, Next: len(k.stored), Last: k.stored[max(0, len(k.stored)-20):]})
	}
	slices.SortFunc(s, func(p, q api.Producer) int { return p.Id - q.Id })
	return s
}

// full reports whether one more producer would be too many.
func (m model) full(id int) bool {
	_, found := m[id]
	return !found && len(m) == 50
}

func (m model) look(id, epoch, seq int) (int, api.Errno) {
	for _, n := range []int{id, epoch, seq} {
		if n < 0 || n > top-1 {
			return 0, api.ErrArg
		}
	}
	k := m[id]
	next := len(k.stored)
	switch {
	case epoch < k.epoch:
		return 0, api.ErrFenced
	case epoch > k.epoch:
		return 0, api.ErrOrder
	case seq > next:
		return 0, api.ErrGap
	case m.full(id):
		return 0, api.ErrFull
	case seq == next:
		return 0, api.OK
	case seq < next-20:
		return -1, api.ErrTwice
	}
	return k.stored[seq], api.ErrTwice
}

func (m model) put(id, epoch, seq, pos int) model {
	k := m[id]
	_, errno := m.look(id, epoch, seq)
	if errno != api.OK || pos < 0 || pos > top || seq > 0 && pos <= k.stored[seq-1] {
		return m
	}
	return m.with(id, known{epoch, append(slices.Clone(k.stored), pos)})
}

func (m model) fence(id int) (model, int, api.Errno) {
	switch {
	case id < 0 || id > top-1:
		return nil, 0, api.ErrArg
	case m.full(id):
		return nil, 0, api.ErrFull
	}
	epoch := m[id].epoch + 1
	return m.with(id, known{epoch: epoch}), epoch, api.OK
}

// with returns the table in which this is known of a producer.
func (m model) with(id int, k known) model {
	all := model{id: k}
	for other, k := range m {
		if other != id {
			all[other] = k
		}
	}
	return all
}

// show writes all fields of a table.
func show(s []api.Producer) string {
	var b strings.Builder
	for _, p := range s {
		for _, n := range append([]int{p.Id, p.Epoch, p.Next}, p.Last...) {
			b.WriteString(strconv.Itoa(n))
			b.WriteByte(' ')
		}
		b.WriteByte('|')
	}
	return b.String()
}

// copied returns an equal table with memory of its own.
func copied(s []api.Producer) []api.Producer {
	var all []api.Producer
	for _, p := range s {
		p.Last = append([]int(nil), p.Last...)
		all = append(all, p)
	}
	return all
}

// call is a record to be put at a position, or a fence.
type call struct {
	fence               bool
	id, epoch, seq, pos int
}

// do does a call with the table and with the model, and compares what comes of it.
func (c call) do(t *testing.T, s []api.Producer, m model) ([]api.Producer, model) {
	t.Helper()
	if !c.fence {
		s, m = producer.Put(s, record(c.id, c.epoch, c.seq), c.pos), m.put(c.id, c.epoch, c.seq, c.pos)
		compare(t, c, s, m)
		return s, m
	}
	after, epoch, errno := producer.Fence(s, c.id)
	want, wantEpoch, wantErrno := m.fence(c.id)
	if epoch != wantEpoch || errno != wantErrno || errno != api.OK && len(after) != 0 {
		t.Fatalf("%v of %v: %v, %d and %v, not %d and %v", c, s, after, epoch, errno, wantEpoch, wantErrno)
	}
	if errno != api.OK {
		return s, m
	}
	compare(t, c, after, want)
	return after, want
}

// compare compares a table with the model, and its encoding.
func compare(t *testing.T, c call, s []api.Producer, m model) {
	t.Helper()
	want := m.table()
	if show(s) != show(want) || !producer.Right(s) || !producer.Same(s, want) {
		t.Fatalf("%v: %v, not %v", c, s, want)
	}
	if back, ok := producer.Read(producer.Bytes(s)); !ok || show(back) != show(s) {
		t.Fatalf("%v: %v is read back as %v, %v", c, s, back, ok)
	}
}

// look compares what Look says of a record.
func look(t *testing.T, s []api.Producer, m model, id, epoch, seq int) {
	t.Helper()
	n, errno := producer.Look(s, record(id, epoch, seq))
	if want, wantErrno := m.look(id, epoch, seq); n != want || errno != wantErrno {
		t.Fatalf("%d of epoch %d of %d in %v: %d and %v, not %d and %v", seq, epoch, id, s, n, errno, want, wantErrno)
	}
}

// few are the calls of the sequences that are compared with the model.
func few() []call {
	var l []call
	for _, id := range []int{3, 8} {
		l = append(l, call{fence: true, id: id})
		for _, seq := range []int{0, 1, 2} {
			for _, pos := range []int{0, 5, 6} {
				l = append(l, call{id: id, seq: seq, pos: pos}, call{id: id, epoch: 1, seq: seq, pos: pos})
			}
		}
	}
	return append(l, call{fence: true, id: -1}, call{id: top, pos: 1}, call{id: 3, pos: -1})
}

// P10.2 to P10.5: all short sequences of calls against the chapter's definitions.
func TestSequences(t *testing.T) {
	calls := few()
	var walk func(s []api.Producer, m model, more int)
	walk = func(s []api.Producer, m model, more int) {
		for _, id := range []int{3, 5, 8} {
			for epoch := -1; epoch < 4; epoch++ {
				for seq := -1; seq < 5; seq++ {
					look(t, s, m, id, epoch, seq)
				}
			}
		}
		if more == 0 {
			return
		}
		for _, c := range calls {
			after, want := c.do(t, s, m)
			walk(after, want, more-1)
		}
	}
	walk(nil, model{}, 3)
}

// P10.2 to P10.5: long sequences of calls with more producers than a table can have, and positions that mostly ascend.
func TestLongSequences(t *testing.T) {
	seen := map[api.Errno]int{}
	for seed := range 12 {
		next := numbers(uint64(seed))
		var s []api.Producer
		m := model{}
		pos, ids := 0, []int{3, 20, 49, 60}[seed%4]
		for range 1500 {
			c := call{fence: next(40) == 0, id: 7 * next(ids)}
			k := m[c.id]
			c.epoch, c.seq, c.pos = k.epoch, len(k.stored), pos
			switch next(6) {
			case 0:
				c.epoch += next(3) - 1
			case 1:
				c.seq += next(60) - 55
			case 2:
				c.pos -= next(30)
			}
			_, errno := m.look(c.id, c.epoch, c.seq)
			seen[errno]++
			look(t, s, m, c.id, c.epoch, c.seq)
			s, m = c.do(t, s, m)
			pos += next(3)
		}
	}
	for _, errno := range []api.Errno{api.OK, api.ErrArg, api.ErrFenced, api.ErrOrder, api.ErrGap, api.ErrFull, api.ErrTwice} {
		if seen[errno] < 20 {
			t.Errorf("%v came only %d times", errno, seen[errno])
		}
	}
}

// numbers returns a function for numbers from 0 to n-1 that look random.
func numbers(seed uint64) func(n int) int {
	return func(n int) int {
		seed = seed*6364136223846793005 + 1442695040888963407
		return int(seed>>33) % n
	}
}
