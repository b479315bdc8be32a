package producer_test

import (
	"slices"
	"testing"

	"errata/api"
	"errata/producer"
)

// line is a record of a log.
type line struct{ id, epoch, seq int }

// partition is a log that stores the records for which Look says OK, and its table.
type partition struct {
	t      *testing.T
	table  []api.Producer
	log    []line
	at     []int       // the positions of the lines
	fenced map[int]int // how often each producer was fenced
}

// send offers a record and stores it, if it is the next one, some positions after those before.
func (p *partition) send(l line, skip int) api.Errno {
	p.t.Helper()
	n, errno := producer.Look(p.table, record(l.id, l.epoch, l.seq))
	switch errno {
	case api.OK:
		pos := skip
		if len(p.at) > 0 {
			pos += p.at[len(p.at)-1] + 1
		}
		p.table = producer.Put(p.table, record(l.id, l.epoch, l.seq), pos)
		p.log, p.at = append(p.log, l), append(p.at, pos)
	case api.ErrTwice:
		i := slices.Index(p.log, l)
		if i < 0 || n != p.at[i] && n != -1 {
			p.t.Fatalf("%v is said to be at %d, in %v", l, n, p.log)
		}
	}
	return errno
}

// fence gives a producer the next epoch.
func (p *partition) fence(id int) {
	p.t.Helper()
	table, epoch, errno := producer.Fence(p.table, id)
	if errno != api.OK || epoch != p.fenced[id]+1 {
		p.t.Fatal("Fence", id, epoch, errno)
	}
	p.table = table
	p.fenced[id]++
}

// check checks that of each producer and epoch the numbers 0, 1, .. are stored, each once and in this order, and nothing of an epoch after one of a later epoch.
func (p *partition) check() {
	p.t.Helper()
	type key struct{ id, epoch int }
	count, latest := map[key]int{}, map[int]int{}
	for i, l := range p.log {
		k := key{l.id, l.epoch}
		if l.seq != count[k] || l.epoch < latest[l.id] {
			p.t.Fatalf("line %d is %v, after %d of its epoch and after the epoch %d", i, l, count[k], latest[l.id])
		}
		count[k]++
		latest[l.id] = l.epoch
	}
}

// P10.7: clients of the same producers that know little of one another send records again and again, in any order; each is stored once, in order, and none of an earlier epoch.
func TestOnce(t *testing.T) {
	stored, twice := 0, 0
	for seed := range 30 {
		next := numbers(uint64(seed))
		p := &partition{t: t, fenced: map[int]int{}}
		for range 1000 {
			l := line{id: next(4)}
			if next(50) == 0 {
				lines := len(p.log)
				p.fence(l.id)
				for epoch := range p.fenced[l.id] {
					for seq := range 40 {
						if p.send(line{l.id, epoch, seq}, 0) != api.ErrFenced || len(p.log) != lines {
							t.Fatalf("%d of the epoch %d of %d is not refused", seq, epoch, l.id)
						}
					}
				}
			}
			l.epoch = max(0, p.fenced[l.id]+[...]int{0, 0, 0, 0, 0, 1, -1}[next(7)])
			l.seq = next(60)
			// Half of the records are the next ones of a client that has heard all answers.
			for _, k := range p.table {
				if k.Id == l.id && next(2) == 0 {
					l.seq = max(0, k.Next-next(2))
				}
			}
			if p.send(l, next(3)) == api.ErrTwice {
				twice++
			}
		}
		p.check()
		stored += len(p.log)
	}
	if stored < 3000 || twice < 3000 {
		t.Error("too little happened:", stored, twice)
	}
}

// P10.7: each number is stored exactly once, also if a client repeats each record until it is acknowledged, and the answers are lost.
func TestRepeated(t *testing.T) {
	p := &partition{t: t, fenced: map[int]int{}}
	for seq := range 100 {
		want := api.OK
		for back := range 25 {
			if seq >= back {
				if errno := p.send(line{1, 0, seq - back}, 0); errno != want {
					t.Fatalf("%d after %d: %v, not %v", seq-back, seq, errno, want)
				}
			}
			want = api.ErrTwice
		}
	}
	if p.check(); len(p.log) != 100 {
		t.Error(len(p.log), "were stored")
	}
}

// part returns what a table knows of a producer, as a table.
func part(s []api.Producer, id int) []api.Producer {
	for i, k := range s {
		if k.Id == id {
			return s[i : i+1]
		}
	}
	return nil
}

// P10.8: what is known and said of each producer is what would be if it were alone.
func TestApart(t *testing.T) {
	for seed := range 10 {
		next := numbers(uint64(seed))
		var s []api.Producer
		alone := make([][]api.Producer, 20)
		for pos := range 1500 {
			id := next(len(alone))
			e := record(id, next(3), next(12))
			n, errno := producer.Look(s, e)
			if want, wantErrno := producer.Look(alone[id], e); n != want || errno != wantErrno {
				t.Fatalf("%v: %d and %v, alone %d and %v", e, n, errno, want, wantErrno)
			}
			if next(30) == 0 {
				s, _, _ = producer.Fence(s, id)
				alone[id], _, _ = producer.Fence(alone[id], id)
			} else {
				s, alone[id] = producer.Put(s, e, pos), producer.Put(alone[id], e, pos)
			}
			for id := range alone {
				if show(part(s, id)) != show(alone[id]) {
					t.Fatalf("%d: %v, alone %v", id, part(s, id), alone[id])
				}
			}
		}
	}
}

// P10.8: those that are in a full table go on as before; it is only new ones that are refused.
func TestLimit(t *testing.T) {
	s := many(50)
	for id := 0; id < 100; id += 2 {
		if _, errno := producer.Look(s, record(id+1, 0, 0)); errno != api.ErrFull {
			t.Fatal(id+1, errno)
		}
		if _, errno := producer.Look(s, record(id, 0, 1)); errno != api.OK {
			t.Fatal(id, errno)
		}
		s = producer.Put(s, record(id+1, 0, 0), 1000)
		s = producer.Put(s, record(id, 0, 1), 1000)
	}
	for i, k := range s {
		if show([]api.Producer{k}) != show([]api.Producer{{Id: 2 * i, Next: 2, Last: []int{i, 1000}}}) {
			t.Error(k)
		}
	}
	if !producer.Right(s) || len(s) != 50 {
		t.Error(len(s), "producers")
	}
}
