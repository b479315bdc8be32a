package intake

import (
	"maps"
	"slices"
	"strings"

	"errata/api"
	"errata/producer"
	"errata/wire"
)

// Bytes returns the encoding of a partition.
func (x *Intake) Bytes() string {
	var b strings.Builder
	for _, n := range [...]int{x.now, x.top, x.next, x.refused} {
		b.WriteString(wire.Int(n))
	}
	b.WriteString(wire.Text(producer.Bytes(x.producers)))
	b.WriteString(wire.Num(len(x.counts)))
	for _, time := range slices.Sorted(maps.Keys(x.counts)) {
		b.WriteString(wire.Int(time))
		b.WriteString(wire.Int(x.counts[time]))
	}
	return b.String()
}

// Read decodes a partition.
func Read(c api.Config, known []api.Known, s string) (*Intake, bool) {
	x := New(c, known)
	if x == nil {
		return nil, false
	}
	r := wire.Open(s)
	x.now, x.top, x.next, x.refused = r.Int(), r.Int(), r.Int(), r.Int()
	if !timely(x.now) || !timely(x.next) || x.top < -1 || x.top > api.MaxTime || x.refused < 0 {
		return nil, false
	}
	table, ok := producer.Read(r.Text())
	if !ok {
		return nil, false
	}
	x.producers = table
	if !x.readCounts(r) {
		return nil, false
	}
	return x, true
}

// readCounts reads the numbers of accepted records up to the end.
func (x *Intake) readCounts(r *wire.Reader) bool {
	count := r.Num()
	before := x.Closed()
	// What follows counts, not the number of times, which may be far more than that.
	for r.Left() > 0 {
		time, n := r.Int(), r.Int()
		if time <= before || time > x.top || n < 1 || n > x.config.Rate {
			return false
		}
		x.counts[time] = n
		before = time
	}
	return r.Done() && len(x.counts) == count
}
