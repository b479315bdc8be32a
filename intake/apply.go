package intake

import (
	"slices"

	"errata/api"
	"errata/producer"
	"errata/value"
)

// Check returns what Apply would return.
func (x *Intake) Check(e api.Entry) (int, api.Errno) {
	switch e.Kind {
	case api.EnPut:
		return x.checkPut(e)
	case api.EnFence:
		_, epoch, errno := producer.Fence(x.producers, e.Producer)
		return epoch, errno
	case api.EnIdle:
		return 0, x.checkIdle(e.Time)
	case api.EnNow:
		return 0, checkTime(e.Time)
	}
	return 0, api.ErrArg
}

// Apply does what an entry says.
func (x *Intake) Apply(e api.Entry) (int, api.Errno) {
	n, errno := x.Check(e)
	switch {
	case errno == api.OK:
		x.take(e)
	case e.Kind == api.EnPut && errno != api.ErrTwice:
		x.refused++
	}
	return n, errno
}

// take does what an entry says for which Check returns no error.
func (x *Intake) take(e api.Entry) {
	switch e.Kind {
	case api.EnPut:
		x.producers = producer.Put(x.producers, e, x.next)
		x.next++
		x.counts[e.Time]++
		x.raise(e.Time)
	case api.EnFence:
		x.producers, _, _ = producer.Fence(x.producers, e.Producer)
	case api.EnIdle:
		x.raise(e.Time)
	case api.EnNow:
		x.now = max(x.now, e.Time)
	}
}

// raise makes a time Top, if it is greater, and forgets how many records the
// times have that are closed by that.
func (x *Intake) raise(time int) {
	if time <= x.top {
		return
	}
	open, last := x.Closed()+1, x.top
	x.top = time
	// No time after the old Top has a number, so that the loop is short however far Top leaps.
	for t := open; t <= min(x.Closed(), last); t++ {
		delete(x.counts, t)
	}
}

// checkPut returns the position that a record gets, or why it is not accepted.
func (x *Intake) checkPut(e api.Entry) (int, api.Errno) {
	if n, errno := producer.Look(x.producers, e); errno != api.OK {
		return n, errno
	}
	cols, found := x.columns(e.Source, e.Schema)
	switch {
	case !timely(e.Time):
		return 0, api.ErrRange
	case !found:
		return 0, api.ErrSchema
	case !fits(e.Row, cols):
		return 0, api.ErrShape
	case e.Time <= x.Closed():
		return 0, api.ErrLate
	case x.ahead(e.Time):
		return 0, api.ErrAhead
	case x.Count(e.Time) >= x.config.Rate:
		return 0, api.ErrRate
	}
	return x.next, api.OK
}

// checkIdle returns why nothing can be said of the times up to one.
func (x *Intake) checkIdle(time int) api.Errno {
	if errno := checkTime(time); errno != api.OK {
		return errno
	}
	if x.ahead(time) {
		return api.ErrAhead
	}
	return api.OK
}

// checkTime returns an error if a number is no event time.
func checkTime(time int) api.Errno {
	if !timely(time) {
		return api.ErrRange
	}
	return api.OK
}

// timely reports whether a number is an event time.
func timely(n int) bool { return n >= 0 && n <= api.MaxTime }

// ahead reports whether an event time is too far in the future.
func (x *Intake) ahead(time int) bool { return time > x.now+x.config.Ahead }

// columns returns the columns of a version of a source, if they are known.
func (x *Intake) columns(source string, schema int) ([]api.Col, bool) {
	same := func(k api.Known) bool { return k.Source == source && k.Schema == schema }
	i := slices.IndexFunc(x.known, same)
	if i < 0 {
		return nil, false
	}
	return x.known[i].Cols, true
}

// fits reports whether a row has the columns.
func fits(row []api.Value, cols []api.Col) bool {
	typed := func(v api.Value, c api.Col) bool { return v.Kind == c.Type }
	return value.RightRow(row) && slices.EqualFunc(row, cols, typed)
}
