package group_test

import (
	"slices"
	"strconv"
	"strings"
	"testing"

	"errata/api"
	"errata/cell"
	"errata/disk"
	"errata/group"
	"errata/journal"
	"errata/net"
	"errata/replica"
)

// machine has the calls of a group.
type machine interface {
	Tick(id int) api.Errno
	Propose(id int, data string) (int, api.Errno)
	Deliver(i int) api.Errno
	Drop(i int) api.Errno
	Double(i int) api.Errno
	Split(mask int)
	Heal()
	Packets() int
	Crash(id int, keep []int) api.Errno
	Start(id int) api.Errno
	Lose(id, n int) api.Errno
	Arm(id, n int, keep []int) api.Errno
	Settle(id, most int) int
	Up(id int) bool
	Role(id int) int
	Term(id int) int
	Log(id int) []api.Rec
	Stored(id int) []api.Rec
	Committed() []string
}

var _ machine = (*group.Group)(nil)

// model is a group as the chapter defines it, word by word.
type model struct {
	network   *net.Net
	disks     [3]*disk.Disk
	up        [3]bool
	journals  [3]*journal.Journal
	cells     [3]*cell.Cell
	replicas  [3]*replica.Replica
	committed []string
}

func newModel() *model {
	m := &model{network: net.New()}
	for id := range 3 {
		m.disks[id] = disk.New()
		m.journals[id], _ = journal.Open(m.disks[id], 0)
		m.cells[id], _ = cell.Open(m.disks[id], 2)
		m.replicas[id] = replica.New(id, api.Hard{Term: 0, Vote: -1}, nil)
		m.up[id] = true
	}
	return m
}

func is3(id int) bool { return id == 0 || id == 1 || id == 2 }

// store stores a result.
func (m *model) store(id int, o api.Out) api.Errno {
	var calls []func() api.Errno
	if o.Save {
		calls = append(calls, func() api.Errno {
			return m.cells[id].Set(strconv.Itoa(o.Hard.Term) + ";" + strconv.Itoa(o.Hard.Vote) + ";")
		})
	}
	if o.From > 0 {
		if m.journals[id].Len() >= o.From-1 {
			calls = append(calls, func() api.Errno { return m.journals[id].Cut(o.From - 1) })
		}
		var l []string
		for _, x := range o.Recs {
			l = append(l, replica.RecBytes(x))
		}
		calls = append(calls, func() api.Errno { return m.journals[id].Append(l) })
	}
	for _, call := range calls {
		if e := call(); e != api.OK {
			m.up[id] = false
			return e
		}
	}
	return api.OK
}

// do does a result.
func (m *model) do(id int, o api.Out) api.Errno {
	if e := m.store(id, o); e != api.OK {
		return e
	}
	for _, x := range o.Send {
		m.network.Send(id, x.To, replica.Bytes(x))
	}
	return api.OK
}

// after is what comes after each call.
func (m *model) after() {
	for id := range 3 {
		if m.up[id] && m.replicas[id].Commit() > len(m.committed) {
			m.committed = nil
			for _, x := range m.replicas[id].Log()[:m.replicas[id].Commit()] {
				m.committed = append(m.committed, x.Data)
			}
		}
	}
}

func (m *model) Tick(id int) api.Errno {
	defer m.after()
	if !is3(id) {
		return api.ErrArg
	}
	if !m.up[id] {
		return api.ErrDown
	}
	return m.do(id, m.replicas[id].Tick())
}

func (m *model) Propose(id int, data string) (int, api.Errno) {
	defer m.after()
	if !is3(id) {
		return 0, api.ErrArg
	}
	if !m.up[id] {
		return 0, api.ErrDown
	}
	n, e, o := m.replicas[id].Propose(data)
	if e != api.OK {
		return 0, e
	}
	if e := m.do(id, o); e != api.OK {
		return 0, e
	}
	return n, api.OK
}

func (m *model) Deliver(i int) api.Errno {
	defer m.after()
	p, e := m.network.Deliver(i)
	if e != api.OK {
		return e
	}
	if !m.up[p.To] {
		return api.ErrDown
	}
	x, ok := replica.Read(p.Body)
	if !ok {
		panic("a body that is no message")
	}
	return m.do(p.To, m.replicas[p.To].Hear(x))
}

func (m *model) Drop(i int) api.Errno   { return m.network.Drop(i) }
func (m *model) Double(i int) api.Errno { return m.network.Double(i) }
func (m *model) Split(mask int)         { m.network.Split(mask) }
func (m *model) Heal()                  { m.network.Heal() }
func (m *model) Packets() int           { return m.network.Count() }

func (m *model) Crash(id int, keep []int) api.Errno {
	if !is3(id) {
		return api.ErrArg
	}
	m.disks[id].Crash(keep)
	m.up[id] = false
	return api.OK
}

// read returns the entries of a journal.
func read(j *journal.Journal) []api.Rec {
	var l []api.Rec
	for _, s := range j.All() {
		x, ok := replica.ReadRec(s)
		if !ok {
			panic("a string that is no entry")
		}
		l = append(l, x)
	}
	return l
}

func (m *model) Start(id int) api.Errno {
	if !is3(id) {
		return api.ErrArg
	}
	if m.up[id] {
		return api.ErrState
	}
	m.disks[id].Start()
	errors := [3]api.Errno{}
	errors[0] = m.disks[id].Sync(2)
	m.journals[id], errors[1] = journal.Open(m.disks[id], 0)
	m.cells[id], errors[2] = cell.Open(m.disks[id], 2)
	for _, e := range errors {
		if e != api.OK {
			return e
		}
	}
	h := api.Hard{Term: 0, Vote: -1}
	if s, ok := m.cells[id].Get(); ok {
		numbers := strings.Split(s, ";")
		h.Term, _ = strconv.Atoi(numbers[0])
		h.Vote, _ = strconv.Atoi(numbers[1])
	}
	m.replicas[id] = replica.New(id, h, read(m.journals[id]))
	m.up[id] = true
	return api.OK
}

func (m *model) Lose(id, n int) api.Errno {
	if !is3(id) {
		return api.ErrArg
	}
	m.disks[id].Lose(n)
	return api.OK
}

func (m *model) Arm(id, n int, keep []int) api.Errno {
	if !is3(id) {
		return api.ErrArg
	}
	m.disks[id].Arm(n, keep)
	return api.OK
}

func (m *model) Settle(id, most int) int {
	m.Tick(id)
	n := 0
	for ; n < most && m.Packets() > 0; n++ {
		m.Deliver(0)
	}
	return n
}

func (m *model) Up(id int) bool { return is3(id) && m.up[id] }

func (m *model) Role(id int) int {
	if !m.Up(id) {
		return -1
	}
	return m.replicas[id].Role()
}

func (m *model) Term(id int) int {
	if !m.Up(id) {
		return 0
	}
	return m.replicas[id].Hard().Term
}

func (m *model) Log(id int) []api.Rec {
	if !m.Up(id) {
		return nil
	}
	return m.replicas[id].Log()
}

func (m *model) Stored(id int) []api.Rec {
	if !is3(id) {
		return nil
	}
	d := m.disks[id].Copy()
	d.Lose(0)
	d.Arm(0, nil)
	d.Crash(nil)
	d.Start()
	j, e := journal.Open(d, 0)
	if e != api.OK {
		return nil
	}
	return read(j)
}

func (m *model) Committed() []string { return m.committed }

// step is one call, with what it returns.
type step func(m machine) (int, api.Errno)

// numbers returns a function that returns pseudo-random numbers less than n.
func numbers(seed uint64) func(n int) int {
	return func(n int) int {
		seed = seed*6364136223846793005 + 1442695040888963407
		return int(seed>>33) % n
	}
}

// mood says how often things happen, of 1000 steps.
type mood struct{ tick, propose, lose, double, split, crash, start, arm, fail, settle int }

func moods() []mood {
	return []mood{
		{tick: 60, propose: 150},
		{tick: 60, propose: 150, lose: 60, double: 60},
		{tick: 40, propose: 150, split: 60},
		{tick: 60, propose: 100, crash: 20, start: 60},
		{tick: 60, propose: 150, arm: 40, start: 60},
		{tick: 60, propose: 150, fail: 30, start: 60},
		{tick: 60, propose: 150, arm: 25, fail: 15, start: 100, split: 40, lose: 30, double: 30, crash: 10},
		{tick: 30, propose: 100, split: 30, settle: 100},
		{tick: 30, propose: 100, split: 30, settle: 100, arm: 30, fail: 10, crash: 10, start: 200},
		{propose: 500, settle: 30, split: 60, start: 60, crash: 8},
		{propose: 400, settle: 60, split: 60, start: 60, arm: 30},
		{tick: 200, propose: 100, settle: 20, start: 60, arm: 30},
	}
}

// keeps returns what can survive a crash.
func keeps() [][]int { return [][]int{nil, {1}, {0, 1}, {1, 0}, {0}, {1, 1, 0}} }

// pick picks anything that can happen in a group.
func pick(next func(n int) int, m mood, g machine) step {
	k := next(1000)
	less := func(n int) bool { k -= n; return k < 0 }
	id, i, keep, few, data := next(3), next(g.Packets()+1), keeps()[next(6)], next(16), strconv.Itoa(next(1000))
	just := func(e api.Errno) (int, api.Errno) { return 0, e }
	switch {
	case less(m.tick):
		return func(g machine) (int, api.Errno) { return just(g.Tick(id)) }
	case less(m.propose):
		for n := range 3 { // a leader, if there is one
			if g.Role((id+n)%3) == replica.Lead {
				id = (id + n) % 3
			}
		}
		return func(g machine) (int, api.Errno) { return g.Propose(id, data) }
	case less(m.lose):
		return func(g machine) (int, api.Errno) { return just(g.Drop(i)) }
	case less(m.double):
		return func(g machine) (int, api.Errno) { return just(g.Double(i)) }
	case less(m.split):
		return func(g machine) (int, api.Errno) {
			if few > 7 {
				g.Heal()
			} else {
				g.Split(few)
			}
			return 0, api.OK
		}
	case less(m.crash):
		return func(g machine) (int, api.Errno) { return just(g.Crash(id, keep)) }
	case less(m.start):
		return func(g machine) (int, api.Errno) { return just(g.Start(id)) }
	case less(m.arm):
		return func(g machine) (int, api.Errno) { return just(g.Arm(id, few, keep)) }
	case less(m.fail):
		return func(g machine) (int, api.Errno) { return just(g.Lose(id, few/4)) }
	case less(m.settle):
		return func(g machine) (int, api.Errno) { return g.Settle(id, few*3), api.OK }
	}
	return func(g machine) (int, api.Errno) { return just(g.Deliver(i)) }
}

// compare checks that a group is what the model is; one of the stored logs is enough, if there is such a number.
func compare(t *testing.T, g *group.Group, m *model, one int) {
	t.Helper()
	if g.Packets() != m.Packets() || !slices.Equal(g.Committed(), m.Committed()) {
		t.Fatalf("%d packets, %q is committed, not %d, %q", g.Packets(), g.Committed(), m.Packets(), m.Committed())
	}
	for id := range 3 {
		if g.Up(id) != m.Up(id) || g.Role(id) != m.Role(id) || g.Term(id) != m.Term(id) || !slices.Equal(g.Log(id), m.Log(id)) {
			t.Fatalf("the member %d: %v, %d, %d, %v, not %v, %d, %d, %v", id, g.Up(id), g.Role(id), g.Term(id), g.Log(id), m.Up(id), m.Role(id), m.Term(id), m.Log(id))
		}
	}
	if got, want := g.Stored(one), m.Stored(one); !slices.Equal(got, want) {
		t.Fatalf("the member %d has stored %v, not %v", one, got, want)
	}
}

// P9.1 to P9.6: long sequences of calls give what the definitions of the chapter give.
func TestModel(t *testing.T) {
	all := moods()
	committed, down := 0, 0
	for seed := range 60 {
		next := numbers(uint64(seed))
		g, m := group.New(), newModel()
		for n := range 250 {
			s := pick(next, all[seed%len(all)], m)
			x, e := s(g)
			if wantX, wantE := s(m); x != wantX || e != wantE {
				t.Fatalf("the seed %d, the step %d: %d, %d, not %d, %d", seed, n, x, e, wantX, wantE)
			}
			compare(t, g, m, next(8))
			if !m.up[0] {
				down++
			}
		}
		committed += len(m.committed)
	}
	if committed < 500 || down < 500 {
		t.Errorf("only %d entries were committed, and 0 was down after %d steps", committed, down)
	}
}
