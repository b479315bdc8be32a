package producer_test

import (
	"math"
	"slices"
	"testing"

	"errata/api"
	"errata/producer"
)

// top is the greatest number of a table; huge and least are those of an int.
const top, huge, least = 1 << 40, math.MaxInt, math.MinInt

// record is a record of a producer.
func record(id, epoch, seq int) api.Entry {
	return api.Entry{Kind: api.EnPut, Producer: id, Epoch: epoch, Seq: seq}
}

// from returns numbers that ascend by 1 from the first one on.
func from(first, count int) []int {
	var l []int
	for i := range count {
		l = append(l, first+i)
	}
	return l
}

// many returns a table with producers that ascend by 2 from 0 on, each with one record.
func many(count int) []api.Producer {
	var s []api.Producer
	for i := range count {
		s = append(s, api.Producer{Id: 2 * i, Next: 1, Last: []int{i}})
	}
	return s
}

// rightTables returns tables that are right, at their limits too.
func rightTables() [][]api.Producer {
	return [][]api.Producer{
		nil,
		{},
		{{}},
		{{Last: []int{}}},
		{{Id: 7}},
		{{Id: 7, Epoch: 3, Next: 2, Last: []int{4, 9}}},
		{{Id: 0, Next: 1, Last: []int{0}}, {Id: 1, Next: 1, Last: []int{0}}, {Id: 9, Epoch: 1}},
		{{Next: 19, Last: from(5, 19)}},
		{{Next: 20, Last: from(0, 20)}},
		{{Next: 21, Last: from(0, 20)}},
		{{Next: 1000, Last: from(1000, 20)}},
		{{Id: top, Epoch: top, Next: top, Last: from(top-19, 20)}},
		{{Id: top - 1, Next: 1, Last: []int{top}}, {Id: top}},
		{{Id: 5, Next: 2, Last: []int{0, top}}},
		many(50),
	}
}

// wrongTables returns tables that are not right.
func wrongTables() [][]api.Producer {
	swapped := from(0, 20)
	swapped[18], swapped[19] = 19, 18
	return [][]api.Producer{
		many(51),
		append(many(49), many(49)...),
		{{Id: -1}},
		{{Id: least}},
		{{Id: top + 1}},
		{{Id: huge}},
		{{Id: 1}, {Id: 1}},
		{{Id: 2}, {Id: 1}},
		{{Id: 1}, {Id: 3}, {Id: 2}},
		{{Id: 0}, {Id: -1}},
		{{Id: 1}, {Id: top + 1}},
		{{Epoch: -1}},
		{{Epoch: top + 1}},
		{{Epoch: least}},
		{{Epoch: huge}},
		{{Next: -1}},
		{{Next: least}},
		{{Next: top + 1, Last: from(0, 20)}},
		{{Next: huge, Last: from(0, 20)}},
		{{Next: 1}},
		{{Last: []int{0}}},
		{{Next: 1, Last: []int{0, 1}}},
		{{Next: 2, Last: []int{0}}},
		{{Next: 20, Last: from(0, 19)}},
		{{Next: 20, Last: from(0, 21)}},
		{{Next: 21, Last: from(0, 21)}},
		{{Next: 21, Last: from(0, 19)}},
		{{Next: 1, Last: []int{-1}}},
		{{Next: 1, Last: []int{least}}},
		{{Next: 1, Last: []int{top + 1}}},
		{{Next: 1, Last: []int{huge}}},
		{{Next: 2, Last: []int{3, 3}}},
		{{Next: 2, Last: []int{3, 2}}},
		{{Next: 2, Last: []int{0, 0}}},
		{{Next: 3, Last: []int{1, 3, 2}}},
		{{Next: 2, Last: []int{-1, 0}}},
		{{Next: 2, Last: []int{0, top + 1}}},
		{{Next: 20, Last: swapped}},
		{{Id: 1}, {Id: 2, Epoch: -1}},
		{{Id: 1, Next: 1}, {Id: 2}},
		append(many(49), api.Producer{Id: 200, Next: 1}),
	}
}

// P10.1: which tables are right, by their number, ids, epochs, numbers and positions.
func TestRight(t *testing.T) {
	for _, s := range rightTables() {
		if !producer.Right(s) {
			t.Errorf("%.300v is not right", s)
		}
	}
	for _, s := range wrongTables() {
		if producer.Right(s) {
			t.Errorf("%.300v is right", s)
		}
	}
}

// P10.1: two lists are equal if all fields are, whether they are right or not.
func TestSame(t *testing.T) {
	lists := append(wrongTables(), rightTables()...)
	for i, a := range lists {
		for k, b := range lists {
			if got, want := producer.Same(a, b), show(a) == show(b); got != want {
				t.Errorf("lists %d and %d: %v, not %v", i, k, got, want)
			}
		}
		if !producer.Same(a, copied(a)) {
			t.Errorf("list %d is not equal to its copy", i)
		}
	}
	base := []api.Producer{{Id: 1, Epoch: 2, Next: 3, Last: []int{4, 5, 6}}, {Id: 7, Epoch: 8}}
	for i, change := range []func(s []api.Producer) []api.Producer{
		func(s []api.Producer) []api.Producer { s[0].Id++; return s },
		func(s []api.Producer) []api.Producer { s[0].Epoch++; return s },
		func(s []api.Producer) []api.Producer { s[0].Next++; return s },
		func(s []api.Producer) []api.Producer { s[0].Last[0]--; return s },
		func(s []api.Producer) []api.Producer { s[0].Last[2]++; return s },
		func(s []api.Producer) []api.Producer { s[0].Last = s[0].Last[:2]; return s },
		func(s []api.Producer) []api.Producer { s[0].Last = s[0].Last[1:]; return s },
		func(s []api.Producer) []api.Producer { s[0].Last = nil; return s },
		func(s []api.Producer) []api.Producer { s[1].Id++; return s },
		func(s []api.Producer) []api.Producer { s[1].Epoch--; return s },
		func(s []api.Producer) []api.Producer { s[1].Next++; return s },
		func(s []api.Producer) []api.Producer { s[1].Last = []int{0}; return s },
		func(s []api.Producer) []api.Producer { return s[:1] },
		func(s []api.Producer) []api.Producer { return s[1:] },
		func(s []api.Producer) []api.Producer { return nil },
		func(s []api.Producer) []api.Producer { return append(s, api.Producer{}) },
		func(s []api.Producer) []api.Producer { s[0], s[1] = s[1], s[0]; return s },
	} {
		other := change(copied(base))
		if producer.Same(base, other) || producer.Same(other, base) || !producer.Same(other, copied(other)) {
			t.Errorf("change %d is not seen", i)
		}
	}
}

// P10.1: no positions are equal to no positions, and no producers to no producers, however they are written.
func TestSameEmpty(t *testing.T) {
	a, b := []api.Producer{{Id: 1}}, []api.Producer{{Id: 1, Last: []int{}}}
	if !producer.Same(a, b) || !producer.Same(b, a) || !producer.Same(nil, []api.Producer{}) || !producer.Same([]api.Producer{}, nil) {
		t.Error("empty lists differ")
	}
}

// P10.2, P10.3, P10.4: the examples of the chapter.
func TestExamples(t *testing.T) {
	e := record(7, 0, 0)
	if n, errno := producer.Look(nil, e); n != 0 || errno != api.OK {
		t.Error("the first record", n, errno)
	}
	s := producer.Put(nil, e, 3)
	if n, errno := producer.Look(s, e); n != 3 || errno != api.ErrTwice {
		t.Error("the same record", n, errno)
	}
	s, epoch, errno := producer.Fence(s, 7)
	if epoch != 1 || errno != api.OK {
		t.Error("Fence", epoch, errno)
	}
	if n, errno := producer.Look(s, record(7, 0, 1)); n != 0 || errno != api.ErrFenced {
		t.Error("a record of the old epoch", n, errno)
	}
	if n, errno := producer.Look(s, record(7, 1, 0)); n != 0 || errno != api.OK {
		t.Error("a record of the new epoch", n, errno)
	}
	if n, errno := producer.Look(s, record(8, 0, 1)); n != 0 || errno != api.ErrGap {
		t.Error("a record that is not the first one", n, errno)
	}
}

// one is a table with a producer of the epoch 2 that has stored 25 records, the last ones at 205, 206, .. 224.
func one() []api.Producer {
	return []api.Producer{{Id: 5, Epoch: 2, Next: 25, Last: from(205, 20)}}
}

// end is a table whose producers have come to the ends of their numbers.
func end() []api.Producer {
	return []api.Producer{
		{Id: 1, Epoch: top, Next: 1, Last: []int{0}},
		{Id: 2, Epoch: top - 1, Next: top - 1, Last: from(100, 20)},
		{Id: 3, Next: top, Last: from(top-19, 20)},
		{Id: top - 1, Epoch: 0, Next: 1, Last: []int{top}},
		{Id: top},
	}
}

// P10.2: Look with all errors, at their limits, and with the positions of records that were stored.
func TestLook(t *testing.T) {
	full := append(many(49), api.Producer{Id: 99})
	for _, c := range []struct {
		name string
		s    []api.Producer
		e    api.Entry
		n    int
		want api.Errno
	}{
		{"the next one", one(), record(5, 2, 25), 0, api.OK},
		{"after a gap", one(), record(5, 2, 26), 0, api.ErrGap},
		{"after the greatest gap", one(), record(5, 2, top-1), 0, api.ErrGap},
		{"the last one", one(), record(5, 2, 24), 224, api.ErrTwice},
		{"the one before", one(), record(5, 2, 23), 223, api.ErrTwice},
		{"the oldest one", one(), record(5, 2, 5), 205, api.ErrTwice},
		{"the newest one of those forgotten", one(), record(5, 2, 4), -1, api.ErrTwice},
		{"the first one", one(), record(5, 2, 0), -1, api.ErrTwice},
		{"an earlier epoch", one(), record(5, 1, 25), 0, api.ErrFenced},
		{"the first epoch", one(), record(5, 0, 0), 0, api.ErrFenced},
		{"an earlier epoch and a gap", one(), record(5, 1, 26), 0, api.ErrFenced},
		{"an earlier epoch and a repetition", one(), record(5, 1, 24), 0, api.ErrFenced},
		{"a later epoch", one(), record(5, 3, 0), 0, api.ErrOrder},
		{"the last epoch", one(), record(5, top-1, 25), 0, api.ErrOrder},
		{"a later epoch and a gap", one(), record(5, 3, 26), 0, api.ErrOrder},
		{"a producer before it", one(), record(4, 0, 0), 0, api.OK},
		{"a producer after it", one(), record(6, 0, 0), 0, api.OK},
		{"the least producer", one(), record(0, 0, 0), 0, api.OK},
		{"the greatest producer", one(), record(top-1, 0, 0), 0, api.OK},
		{"a new producer and a gap", one(), record(6, 0, 1), 0, api.ErrGap},
		{"a new producer and a later epoch", one(), record(6, 1, 0), 0, api.ErrOrder},
		{"no table", nil, record(6, 0, 0), 0, api.OK},
		{"no table and a gap", nil, record(6, 0, top-1), 0, api.ErrGap},
		{"no table and a later epoch", nil, record(6, top-1, 1), 0, api.ErrOrder},
		{"no producer", one(), record(-1, 2, 25), 0, api.ErrArg},
		{"the least int as producer", one(), record(least, 2, 25), 0, api.ErrArg},
		{"a producer too great", one(), record(top, 0, 0), 0, api.ErrArg},
		{"the greatest int as producer", one(), record(huge, 0, 0), 0, api.ErrArg},
		{"no epoch", one(), record(5, -1, 25), 0, api.ErrArg},
		{"the least int as epoch", one(), record(5, least, 25), 0, api.ErrArg},
		{"an epoch too great", one(), record(5, top, 25), 0, api.ErrArg},
		{"the greatest int as epoch", one(), record(5, huge, 25), 0, api.ErrArg},
		{"no number", one(), record(5, 2, -1), 0, api.ErrArg},
		{"the least int as number", one(), record(5, 2, least), 0, api.ErrArg},
		{"a number too great", one(), record(5, 2, top), 0, api.ErrArg},
		{"the greatest int as number", one(), record(5, 2, huge), 0, api.ErrArg},
		{"no number of an earlier epoch", one(), record(5, 0, -1), 0, api.ErrArg},
		{"no producer, full", full, record(-1, 0, 0), 0, api.ErrArg},
		{"a number too great, full", full, record(1, 0, top), 0, api.ErrArg},
		{"a new producer, full", full, record(1, 0, 0), 0, api.ErrFull},
		{"a new producer after all, full", full, record(100, 0, 0), 0, api.ErrFull},
		{"a new producer and a gap, full", full, record(1, 0, 1), 0, api.ErrGap},
		{"a new producer and a later epoch, full", full, record(1, 1, 0), 0, api.ErrOrder},
		{"a producer that is there, full", full, record(96, 0, 1), 0, api.OK},
		{"a repetition, full", full, record(96, 0, 0), 48, api.ErrTwice},
		{"a producer that is there with nothing, full", full, record(99, 0, 0), 0, api.OK},
		{"a new producer, not full", many(49), record(1, 0, 0), 0, api.OK},
		{"the epoch after the last one", end(), record(1, top, 1), 0, api.ErrArg},
		{"the last epoch, over", end(), record(1, top-1, 1), 0, api.ErrFenced},
		{"the last number of the last epoch", end(), record(2, top-1, top-1), 0, api.OK},
		{"the number before", end(), record(2, top-1, top-2), 119, api.ErrTwice},
		{"all numbers were used", end(), record(3, 0, top-1), top, api.ErrTwice},
		{"the oldest one of all numbers", end(), record(3, 0, top-20), top - 19, api.ErrTwice},
		{"forgotten of all numbers", end(), record(3, 0, top-21), -1, api.ErrTwice},
		{"the first one of all numbers", end(), record(3, 0, 0), -1, api.ErrTwice},
		{"the greatest position", end(), record(top-1, 0, 0), top, api.ErrTwice},
		{"a producer with a number of its own, too great", end(), record(top, 0, 0), 0, api.ErrArg},
	} {
		if n, errno := producer.Look(c.s, c.e); n != c.n || errno != c.want {
			t.Errorf("%s: %d and %v, not %d and %v", c.name, n, errno, c.n, c.want)
		}
	}
}

// P10.2: the other fields of a record do not matter.
func TestLookOtherFields(t *testing.T) {
	for _, c := range []struct {
		seq, n int
		want   api.Errno
	}{{25, 0, api.OK}, {24, 224, api.ErrTwice}, {26, 0, api.ErrGap}} {
		e := api.Entry{Kind: api.EnFence, Producer: 5, Epoch: 2, Seq: c.seq, Source: "s", Schema: -3, Time: least, Row: []api.Value{{Kind: 9}}}
		if n, errno := producer.Look(one(), e); n != c.n || errno != c.want {
			t.Errorf("number %d: %d and %v", c.seq, n, errno)
		}
		e.Kind = -1
		if c.want == api.OK && show(producer.Put(one(), e, 300)) != show(producer.Put(one(), record(5, 2, 25), 300)) {
			t.Error("Put of a record with other fields")
		}
	}
}

// P10.3: Put of records at new and old producers, at first and last positions, and where nothing changes.
func TestPut(t *testing.T) {
	shifted := append(from(206, 19), 300)
	two := []api.Producer{{Id: 3, Next: 1, Last: []int{8}}, {Id: 5, Epoch: 1}}
	full := append(many(49), api.Producer{Id: 99})
	for _, c := range []struct {
		name string
		s    []api.Producer
		e    api.Entry
		pos  int
		want []api.Producer
	}{
		{"first of all", nil, record(7, 0, 0), 3, []api.Producer{{Id: 7, Next: 1, Last: []int{3}}}},
		{"at 0", nil, record(0, 0, 0), 0, []api.Producer{{Next: 1, Last: []int{0}}}},
		{"at the greatest position", nil, record(top-1, 0, 0), top, []api.Producer{{Id: top - 1, Next: 1, Last: []int{top}}}},
		{"behind the greatest position", nil, record(7, 0, 0), top + 1, nil},
		{"at the greatest int", nil, record(7, 0, 0), huge, nil},
		{"at -1", nil, record(7, 0, 0), -1, nil},
		{"at the least int", nil, record(7, 0, 0), least, nil},
		{"20 of 26", one(), record(5, 2, 25), 300, []api.Producer{{Id: 5, Epoch: 2, Next: 26, Last: shifted}}},
		{"right after the last position", one(), record(5, 2, 25), 225, []api.Producer{{Id: 5, Epoch: 2, Next: 26, Last: from(206, 20)}}},
		{"at the last position", one(), record(5, 2, 25), 224, one()},
		{"before the last position", one(), record(5, 2, 25), 223, one()},
		{"before all positions", one(), record(5, 2, 25), 0, one()},
		{"at -1, behind others", one(), record(5, 2, 25), -1, one()},
		{"behind the greatest position, behind others", one(), record(5, 2, 25), top + 1, one()},
		{"a gap", one(), record(5, 2, 26), 300, one()},
		{"a repetition", one(), record(5, 2, 24), 300, one()},
		{"an earlier epoch", one(), record(5, 1, 25), 300, one()},
		{"a later epoch", one(), record(5, 3, 0), 300, one()},
		{"no producer", one(), record(-1, 0, 0), 300, one()},
		{"a producer too great", one(), record(top, 0, 0), 300, one()},
		{"a number too great", one(), record(5, 2, top), 300, one()},
		{"a new one before others", two, record(2, 0, 0), 9, []api.Producer{{Id: 2, Next: 1, Last: []int{9}}, two[0], two[1]}},
		{"a new one between others", two, record(4, 0, 0), 0, []api.Producer{two[0], {Id: 4, Next: 1, Last: []int{0}}, two[1]}},
		{"a new one after others", two, record(6, 0, 0), 9, []api.Producer{two[0], two[1], {Id: 6, Next: 1, Last: []int{9}}}},
		{"at a lower position than that of another producer", two, record(5, 1, 0), 0, []api.Producer{two[0], {Id: 5, Epoch: 1, Next: 1, Last: []int{0}}}},
		{"the second one", two, record(3, 0, 1), 9, []api.Producer{{Id: 3, Next: 2, Last: []int{8, 9}}, two[1]}},
		{"the 20th one", []api.Producer{{Next: 19, Last: from(0, 19)}}, record(0, 0, 19), 19, []api.Producer{{Next: 20, Last: from(0, 20)}}},
		{"the 21st one", []api.Producer{{Next: 20, Last: from(0, 20)}}, record(0, 0, 20), 20, []api.Producer{{Next: 21, Last: from(1, 20)}}},
		{"a new one, full", full, record(1, 0, 0), 300, full},
		{"one that is there with nothing, full", full, record(99, 0, 0), 300, append(many(49), api.Producer{Id: 99, Next: 1, Last: []int{300}})},
		{"the 50th one", many(49), record(200, 0, 0), 300, append(many(49), api.Producer{Id: 200, Next: 1, Last: []int{300}})},
		{"after all numbers", end()[2:3], record(3, 0, top-1), top, end()[2:3]},
		{"the last number", end()[1:2], record(2, top-1, top-1), 120, []api.Producer{{Id: 2, Epoch: top - 1, Next: top, Last: from(101, 20)}}},
		{"after the greatest position", end()[3:4], record(top-1, 0, 1), top, end()[3:4]},
	} {
		got := producer.Put(c.s, c.e, c.pos)
		if show(got) != show(c.want) || !producer.Right(got) {
			t.Errorf("%s: %v, not %v", c.name, got, c.want)
		}
	}
}

// P10.4: Fence of new and old producers, and its errors.
func TestFence(t *testing.T) {
	full := append(many(49), api.Producer{Id: 99})
	for _, c := range []struct {
		name  string
		s     []api.Producer
		id    int
		want  []api.Producer
		epoch int
		errno api.Errno
	}{
		{"the first one", nil, 7, []api.Producer{{Id: 7, Epoch: 1}}, 1, api.OK},
		{"the least one", nil, 0, []api.Producer{{Epoch: 1}}, 1, api.OK},
		{"the greatest one", nil, top - 1, []api.Producer{{Id: top - 1, Epoch: 1}}, 1, api.OK},
		{"no producer", nil, -1, nil, 0, api.ErrArg},
		{"the least int", nil, least, nil, 0, api.ErrArg},
		{"a producer too great", nil, top, nil, 0, api.ErrArg},
		{"the greatest int", nil, huge, nil, 0, api.ErrArg},
		{"a producer too great that is there", end(), top, nil, 0, api.ErrArg},
		{"one with records", one(), 5, []api.Producer{{Id: 5, Epoch: 3}}, 3, api.OK},
		{"one before it", one(), 4, append([]api.Producer{{Id: 4, Epoch: 1}}, one()...), 1, api.OK},
		{"one after it", one(), 6, append(one(), api.Producer{Id: 6, Epoch: 1}), 1, api.OK},
		{"after the last epoch", end(), 1, nil, 0, api.ErrArg},
		{"the last epoch", end()[1:2], 2, []api.Producer{{Id: 2, Epoch: top}}, top, api.OK},
		{"all numbers were used", end()[2:3], 3, []api.Producer{{Id: 3, Epoch: 1}}, 1, api.OK},
		{"a new one, full", full, 1, nil, 0, api.ErrFull},
		{"no producer, full", full, -1, nil, 0, api.ErrArg},
		{"a producer too great, full", full, top, nil, 0, api.ErrArg},
		{"one that is there with nothing, full", full, 99, append(many(49), api.Producer{Id: 99, Epoch: 1}), 1, api.OK},
		{"the 50th one", many(49), 200, append(many(49), api.Producer{Id: 200, Epoch: 1}), 1, api.OK},
	} {
		got, epoch, errno := producer.Fence(c.s, c.id)
		if show(got) != show(c.want) || epoch != c.epoch || errno != c.errno || errno == api.OK && !producer.Right(got) {
			t.Errorf("%s: %v, %d and %v, not %v, %d and %v", c.name, got, epoch, errno, c.want, c.epoch, c.errno)
		}
	}
}

// P10.4: after Fence, the numbers begin at 0 again, at any position.
func TestAfterFence(t *testing.T) {
	s, epoch, _ := producer.Fence(one(), 5)
	for _, c := range []struct {
		e    api.Entry
		want api.Errno
	}{
		{record(5, 2, 25), api.ErrFenced},
		{record(5, 2, 24), api.ErrFenced},
		{record(5, epoch, 25), api.ErrGap},
		{record(5, epoch, 1), api.ErrGap},
		{record(5, epoch+1, 0), api.ErrOrder},
		{record(5, epoch, 0), api.OK},
	} {
		if n, errno := producer.Look(s, c.e); n != 0 || errno != c.want {
			t.Errorf("%v: %d and %v, not %v", c.e, n, errno, c.want)
		}
	}
	if got := producer.Put(s, record(5, epoch, 0), 100); show(got) != show([]api.Producer{{Id: 5, Epoch: 3, Next: 1, Last: []int{100}}}) {
		t.Error(got)
	}
}

// calls are all functions with tables as results.
func calls() map[string]func(s []api.Producer) []api.Producer {
	return map[string]func(s []api.Producer) []api.Producer{
		"Put of the next one": func(s []api.Producer) []api.Producer { return producer.Put(s, record(5, 2, 25), 300) },
		"Put of a new one":    func(s []api.Producer) []api.Producer { return producer.Put(s, record(1, 0, 0), 300) },
		"Put of a last one":   func(s []api.Producer) []api.Producer { return producer.Put(s, record(99, 0, 0), 300) },
		"Put of a repetition": func(s []api.Producer) []api.Producer { return producer.Put(s, record(5, 2, 24), 300) },
		"Put of nothing":      func(s []api.Producer) []api.Producer { return producer.Put(s, record(-1, 0, 0), 300) },
		"Put before the last": func(s []api.Producer) []api.Producer { return producer.Put(s, record(5, 2, 25), 3) },
		"Fence":               func(s []api.Producer) []api.Producer { t, _, _ := producer.Fence(s, 5); return t },
		"Fence of a new one":  func(s []api.Producer) []api.Producer { t, _, _ := producer.Fence(s, 1); return t },
		"Fence of a last one": func(s []api.Producer) []api.Producer { t, _, _ := producer.Fence(s, 99); return t },
		"Read":                func(s []api.Producer) []api.Producer { t, _ := producer.Read(producer.Bytes(s)); return t },
	}
}

// spare returns a table of three producers with room behind it and behind its positions, and all of that room.
func spare() (s, all []api.Producer) {
	all = append([]api.Producer{{Id: 2, Next: 1, Last: []int{7}}}, one()...)
	all = append(all, api.Producer{Id: 9, Next: 2, Last: []int{1, 2}}, api.Producer{Id: 1000, Last: []int{-3}}, api.Producer{Id: -1000})
	for i, p := range all {
		all[i].Last = append(p.Last, -7, -8)[:len(p.Last)]
	}
	return all[:3], all
}

// spoil changes everything in a table, and what is behind it.
func spoil(s []api.Producer) {
	for i := range s {
		l := s[i].Last[:cap(s[i].Last)]
		for k := range l {
			l[k] = -99
		}
		s[i].Id, s[i].Epoch, s[i].Next = -1, -2, -3
	}
	s = s[:cap(s)]
	clear(s)
}

// P10.6: arguments stay as they are, also what is behind their ends, and results share no memory with them.
func TestMemory(t *testing.T) {
	for name, call := range calls() {
		s, all := spare()
		before := show(all)
		got := call(s)
		want := show(got)
		for i, p := range all {
			if l := p.Last[:len(p.Last)+2]; show(all) != before || !slices.Equal(l[len(l)-2:], []int{-7, -8}) {
				t.Fatalf("%s: the argument has changed at %d: %v", name, i, all)
			}
		}
		spoil(all)
		if show(got) != want {
			t.Errorf("%s: the result follows its argument: %v", name, got)
		}
		s, all = spare()
		got = call(s)
		spoil(got)
		if show(all) != before || show(call(s)) != want {
			t.Errorf("%s: the argument follows its result: %v", name, all)
		}
	}
}

// P10.6: no two lists of positions of a result share memory.
func TestMemoryOfResult(t *testing.T) {
	for name, call := range calls() {
		s, _ := spare()
		got := call(s)
		want := copied(got)
		for i := range got {
			l := got[i].Last
			l = append(l, -5, -6, -7)
			for k := range l {
				l[k] = -4
			}
			for k, p := range got {
				if k != i && !slices.Equal(p.Last, want[k].Last) {
					t.Errorf("%s: the positions of %d follow those of %d", name, k, i)
				}
			}
			copy(got[i].Last, want[i].Last)
		}
	}
}

// P10.6: equal calls have equal results, whatever was called in between.
func TestPure(t *testing.T) {
	s := append(one(), api.Producer{Id: 9, Next: 2, Last: []int{1, 2}})
	type result struct {
		look  int
		errno api.Errno
		texts [5]string
	}
	all := func() result {
		var r result
		r.look, r.errno = producer.Look(s, record(5, 2, 20))
		fenced, _, _ := producer.Fence(s, 9)
		back, _ := producer.Read(producer.Bytes(s))
		r.texts = [5]string{show(producer.Put(s, record(5, 2, 25), 400)), show(producer.Put(s, record(6, 0, 0), 1)), show(fenced), show(back), producer.Bytes(s)}
		return r
	}
	want := all()
	for range 3 {
		if got := all(); got != want {
			t.Errorf("%v, not %v", got, want)
		}
	}
}

// P1: tables that are not right are unspecified, but no function panics at them.
func TestWrongTables(t *testing.T) {
	odd := []int{least, -1, 0, 1, 19, 20, 21, 25, top - 1, top, top + 1, huge}
	tables := wrongTables()
	for _, id := range odd {
		for _, n := range odd {
			tables = append(tables, []api.Producer{{Id: id, Epoch: 0, Next: n}}, []api.Producer{{Id: 5, Epoch: n, Next: id, Last: from(0, 40)}})
		}
	}
	for _, s := range tables {
		producer.Right(s)
		producer.Read(producer.Bytes(s))
		for _, id := range []int{-1, 0, 1, 5, top} {
			producer.Fence(s, id)
			for _, n := range odd {
				producer.Look(s, record(id, 0, n))
				producer.Put(s, record(id, 0, n), n)
				producer.Put(s, record(id, n, 0), 1)
			}
		}
	}
}
