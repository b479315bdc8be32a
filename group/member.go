package group

import (
	"errata/api"
	"errata/cell"
	"errata/disk"
	"errata/journal"
	"errata/replica"
	"errata/wire"
)

// The files of a member: the journal has two of them.
const (
	base     = 0
	hardFile = 2
)

// nobody is the vote of a replica that has not voted.
const nobody = -1

// member is a machine with a disk.
type member struct {
	disk *disk.Disk
	live *live // nil while the member is not up
}

// live is what a member has while it is up.
type live struct {
	journal *journal.Journal // the log that is stored
	hard    *cell.Cell       // the term and the vote that are stored
	replica *replica.Replica
}

// newMember returns a member that is up, with a new disk.
func newMember(id int) member {
	m := member{disk: disk.New()}
	m.start(id)
	return m
}

// start brings the member up, with what its disk has.
func (m *member) start(id int) api.Errno {
	m.disk.Start()
	// What is read from now on must not be taken back by a crash; the journal sees to that for its own files.
	synced := m.disk.Sync(hardFile)
	j, opened := journal.Open(m.disk, base)
	c, found := cell.Open(m.disk, hardFile)
	if e := first(synced, opened, found); e != api.OK {
		return e
	}
	m.live = &live{journal: j, hard: c, replica: replica.New(id, readHard(c), entries(j))}
	return api.OK
}

// stop makes the member forget everything but its disk.
func (m *member) stop() { m.live = nil }

// stored returns the log that a crash would leave.
func (m *member) stored() []api.Rec {
	d := m.disk.Copy()
	d.Lose(0)
	d.Arm(0, nil)
	d.Crash(nil)
	d.Start()
	j, e := journal.Open(d, base)
	if e != api.OK {
		return nil
	}
	return entries(j)
}

// tick lets the replica tick; there is nothing that it is given.
func (l *live) tick(string) (int, api.Errno, api.Out) { return 0, api.OK, l.replica.Tick() }

// hear lets the replica hear the message with an encoding.
func (l *live) hear(body string) (int, api.Errno, api.Out) {
	m, _ := replica.Read(body)
	return 0, api.OK, l.replica.Hear(m)
}

// propose gives the replica an entry.
func (l *live) propose(data string) (int, api.Errno, api.Out) { return l.replica.Propose(data) }

// store stores a result, up to the first error.
func (l *live) store(o api.Out) api.Errno {
	if o.Save {
		if e := l.hard.Set(wire.Int(o.Hard.Term) + wire.Int(o.Hard.Vote)); e != api.OK {
			return e
		}
	}
	if o.From > 0 {
		return l.replace(o.From-1, o.Recs)
	}
	return api.OK
}

// replace puts entries in the place of those after the first n.
func (l *live) replace(n int, recs []api.Rec) api.Errno {
	if e := l.journal.Cut(min(n, l.journal.Len())); e != api.OK {
		return e
	}
	forms := make([]string, len(recs))
	for i, x := range recs {
		forms[i] = replica.RecBytes(x)
	}
	return l.journal.Append(forms)
}

// readHard returns the term and the vote in a cell.
func readHard(c *cell.Cell) api.Hard {
	s, ok := c.Get()
	if !ok {
		return api.Hard{Vote: nobody}
	}
	r := wire.Open(s)
	return api.Hard{Term: r.Int(), Vote: r.Int()}
}

// entries returns the entries of which the strings of a journal are the forms.
func entries(j *journal.Journal) []api.Rec {
	l := make([]api.Rec, j.Len())
	for i, s := range j.All() {
		l[i], _ = replica.ReadRec(s)
	}
	return l
}

// first returns the first error, or OK.
func first(errors ...api.Errno) api.Errno {
	for _, e := range errors {
		if e != api.OK {
			return e
		}
	}
	return api.OK
}
