package intake_test

import (
	"math"
	"slices"
	"strconv"
	"strings"
	"testing"

	"errata/api"
	"errata/intake"
)

// last is the greatest event time; huge and least are the ends of an int.
const last, huge, least = 1 << 40, math.MaxInt, math.MinInt

// example is the configuration of the chapter's example.
func example() api.Config { return api.Config{Delay: 2, Late: 5, Ahead: 100, Rate: 1} }

// known are the columns of the chapter's example.
func known() []api.Known {
	return []api.Known{{Source: "s", Schema: 1, Cols: []api.Col{{Name: "a", Type: api.VInt}}}}
}

// put is a record of the producer 7 that fits these columns.
func put(seq, time int) api.Entry {
	return api.Entry{Kind: api.EnPut, Producer: 7, Seq: seq, Source: "s", Schema: 1, Time: time, Row: []api.Value{{N: seq}}}
}

func idle(time int) api.Entry  { return api.Entry{Kind: api.EnIdle, Time: time} }
func clock(time int) api.Entry { return api.Entry{Kind: api.EnNow, Time: time} }
func fence(id int) api.Entry   { return api.Entry{Kind: api.EnFence, Producer: id} }

// begin returns a new partition.
func begin(t *testing.T, c api.Config, known []api.Known) *intake.Intake {
	t.Helper()
	x := intake.New(c, known)
	if x == nil {
		t.Fatalf("%v is refused", c)
	}
	return x
}

// read decodes a partition.
func read(t *testing.T, c api.Config, s string) *intake.Intake {
	t.Helper()
	x, ok := intake.Read(c, known(), s)
	if !ok || x == nil {
		t.Fatalf("%q is not read", s)
	}
	return x
}

// show writes what a partition shows.
func show(x *intake.Intake) string {
	var b strings.Builder
	for _, n := range []int{x.Now(), x.Top(), x.Closed(), x.Mark(), x.Next(), x.Refused()} {
		b.WriteString(strconv.Itoa(n) + " ")
	}
	b.WriteString(table(x.Producers()) + x.Bytes())
	return b.String()
}

// table writes a table of producers.
func table(s []api.Producer) string {
	var b strings.Builder
	for _, p := range s {
		for _, n := range append([]int{p.Id, p.Epoch, p.Next}, p.Last...) {
			b.WriteString(strconv.Itoa(n) + " ")
		}
		b.WriteString("| ")
	}
	return b.String()
}

// apply applies an entry, and checks its results, those of Check, and what has to stay as it was.
func apply(t *testing.T, x *intake.Intake, e api.Entry, n int, errno api.Errno) {
	t.Helper()
	before, refused := show(x), x.Refused()
	if got, gotErrno := x.Check(e); got != n || gotErrno != errno || show(x) != before {
		t.Errorf("Check of %v: %d and %v, not %d and %v; %s, before %s", e, got, gotErrno, n, errno, show(x), before)
	}
	numbers := [...]int{x.Now(), x.Top(), x.Closed(), x.Mark(), x.Next()}
	producers, times := table(x.Producers()), counted(x)
	if got, gotErrno := x.Apply(e); got != n || gotErrno != errno {
		t.Errorf("Apply of %v: %d and %v, not %d and %v", e, got, gotErrno, n, errno)
	}
	if errno == api.OK {
		if x.Refused() != refused {
			t.Errorf("%v is accepted, but refused are %d, before %d", e, x.Refused(), refused)
		}
		return
	}
	if e.Kind == api.EnPut && errno != api.ErrTwice {
		refused++
	}
	if numbers != [...]int{x.Now(), x.Top(), x.Closed(), x.Mark(), x.Next()} || table(x.Producers()) != producers || counted(x) != times || x.Refused() != refused {
		t.Errorf("%v is refused, but changes something: %s, before %s", e, show(x), before)
	}
}

// counted writes how many records of the last times were accepted.
func counted(x *intake.Intake) string {
	var b strings.Builder
	for time := max(x.Closed(), x.Top()-200); time <= x.Top()+1; time++ {
		b.WriteString(strconv.Itoa(x.Count(time)) + " ")
	}
	return b.String()
}

// shows checks the numbers of a partition.
func shows(t *testing.T, x *intake.Intake, now, top, closed, mark, next, refused int) {
	t.Helper()
	got := [...]int{x.Now(), x.Top(), x.Closed(), x.Mark(), x.Next(), x.Refused()}
	if want := [...]int{now, top, closed, mark, next, refused}; got != want {
		t.Errorf("%v, not %v", got, want)
	}
}

// rightConfigs returns configurations that are right, at their limits too.
func rightConfigs() []api.Config {
	return []api.Config{
		example(),
		{Rate: 1},
		{Rate: 20},
		{Late: 1, Rate: 1},
		{Delay: 1, Late: 1, Rate: 1},
		{Ahead: 1, Rate: 1},
		{Late: 10000, Rate: 1},
		{Ahead: 10000, Rate: 1},
		{Delay: 10000, Late: 10000, Ahead: 10000, Rate: 20},
		{Parts: -1, Span: -1, Rate: 7},
		{Parts: huge, Span: least, Late: 3, Rate: 7},
	}
}

// wrongConfigs returns configurations that are not right.
func wrongConfigs() []api.Config {
	return []api.Config{
		{},
		{Parts: 1, Span: 1},
		{Rate: -1},
		{Rate: least},
		{Rate: 21},
		{Rate: huge},
		{Delay: -1, Rate: 1},
		{Delay: least, Late: 5, Rate: 1},
		{Delay: 1, Rate: 1},
		{Delay: 6, Late: 5, Rate: 1},
		{Delay: 10001, Late: 10000, Rate: 1},
		{Delay: huge, Late: 10000, Rate: 1},
		{Late: -1, Rate: 1},
		{Delay: -1, Late: -1, Rate: 1},
		{Delay: least, Late: least, Rate: 1},
		{Late: 10001, Rate: 1},
		{Delay: 10001, Late: 10001, Rate: 1},
		{Late: huge, Rate: 1},
		{Ahead: -1, Rate: 1},
		{Ahead: least, Rate: 1},
		{Ahead: 10001, Rate: 1},
		{Ahead: huge, Rate: 1},
	}
}

// P11.1: which configurations are right; what is new is as the chapter says, and nothing is new without one.
func TestNew(t *testing.T) {
	for _, c := range rightConfigs() {
		if !intake.Right(c) {
			t.Errorf("%v is not right", c)
		}
		x := begin(t, c, known())
		shows(t, x, 0, -1, -1, -1, 0, 0)
		if len(x.Producers()) != 0 || x.Count(0) != 0 || x.Count(-1) != 0 || x.Bytes() != "0;-1;0;0;2:0;,0;" {
			t.Errorf("%v: a new one is %s", c, show(x))
		}
		apply(t, x, put(0, 0), 0, api.OK)
	}
	for _, c := range wrongConfigs() {
		if intake.Right(c) || intake.New(c, known()) != nil {
			t.Errorf("%v is right", c)
		}
		if x, ok := intake.Read(c, known(), "0;-1;0;0;2:0;,0;"); x != nil || ok {
			t.Errorf("%v is right for Read", c)
		}
	}
}

// P11.1: New and Know give the known columns, and nothing else.
func TestKnow(t *testing.T) {
	x := begin(t, example(), nil)
	apply(t, x, put(0, 10), 0, api.ErrSchema)
	x.Know(known())
	apply(t, x, put(0, 10), 0, api.OK)
	before := show(x)
	other := []api.Known{{Source: "s", Schema: 2, Cols: []api.Col{{Name: "a", Type: api.VText}}}, {Source: "r", Schema: 1}}
	x.Know(other)
	if show(x) != before || x.Count(10) != 1 {
		t.Errorf("Know makes %s of %s", show(x), before)
	}
	apply(t, x, put(1, 11), 0, api.ErrSchema)
	e := put(1, 11)
	e.Schema = 2
	apply(t, x, e, 0, api.ErrShape)
	e.Row = []api.Value{{Kind: api.VText, S: "x"}}
	apply(t, x, e, 1, api.OK)
	x.Know([]api.Known{})
	e.Seq, e.Time = 2, 12
	apply(t, x, e, 0, api.ErrSchema)
}

// P11.2: the example of the chapter.
func TestExample(t *testing.T) {
	x := begin(t, example(), known())
	apply(t, x, put(0, 10), 0, api.OK)
	apply(t, x, put(0, 10), 0, api.ErrTwice)
	apply(t, x, put(1, 10), 0, api.ErrRate)
	apply(t, x, put(1, 4), 0, api.ErrLate)
	apply(t, x, put(1, 5), 1, api.OK)
	apply(t, x, put(2, 101), 0, api.ErrAhead)
	shows(t, x, 0, 10, 4, 7, 2, 3)
}

// crowd returns a partition with 50 producers: the producer 7 is in its epoch 1, and
// has one record, at the position 2, of the time 100; Now and Top are 100, Closed is 89.
func crowd(t *testing.T) *intake.Intake {
	t.Helper()
	x := begin(t, api.Config{Late: 10, Ahead: 50, Rate: 1}, known())
	apply(t, x, clock(100), 0, api.OK)
	apply(t, x, put(0, 85), 0, api.OK)
	apply(t, x, put(1, 86), 1, api.OK)
	apply(t, x, fence(7), 1, api.OK)
	e := put(0, 100)
	e.Epoch = 1
	apply(t, x, e, 2, api.OK)
	for id := 1000; id < 1049; id++ {
		apply(t, x, fence(id), 1, api.OK)
	}
	shows(t, x, 100, 100, 89, 99, 3, 0)
	return x
}

// fault is a change that makes a record one for which an error is returned.
type fault struct {
	n      int
	errno  api.Errno
	change func(e *api.Entry)
}

// faults returns changes of the next record of a crowd, in the order of their errors.
func faults() []fault {
	return []fault{
		{0, api.ErrArg, func(e *api.Entry) { e.Producer = -1 }},
		{0, api.ErrFenced, func(e *api.Entry) { e.Producer, e.Epoch = 7, 0 }},
		{0, api.ErrOrder, func(e *api.Entry) { e.Epoch = 2 }},
		{0, api.ErrGap, func(e *api.Entry) { e.Seq = 2 }},
		{0, api.ErrFull, func(e *api.Entry) { e.Producer, e.Epoch, e.Seq = 8, 0, 0 }},
		{2, api.ErrTwice, func(e *api.Entry) { e.Seq = 0 }},
		{0, api.ErrRange, func(e *api.Entry) { e.Time = -1 }},
		{0, api.ErrRange, func(e *api.Entry) { e.Time = last + 1 }},
		{0, api.ErrSchema, func(e *api.Entry) { e.Schema = 2 }},
		{0, api.ErrSchema, func(e *api.Entry) { e.Source = "r" }},
		{0, api.ErrShape, func(e *api.Entry) { e.Row = nil }},
		{0, api.ErrLate, func(e *api.Entry) { e.Time = 89 }},
		{0, api.ErrLate, func(e *api.Entry) { e.Time = 85 }},
		{0, api.ErrAhead, func(e *api.Entry) { e.Time = 151 }},
		{0, api.ErrRate, func(e *api.Entry) { e.Time = 100 }},
	}
}

// P11.2, P11.3: each error, and of all that apply the first one.
func TestErrors(t *testing.T) {
	next := put(1, 95)
	next.Epoch = 1
	x := crowd(t)
	all := faults()
	for i, f := range all {
		e := next
		f.change(&e)
		apply(t, x, e, f.n, f.errno)
		for k := range all[i+1:] {
			e := next
			all[len(all)-1-k].change(&e)
			f.change(&e)
			apply(t, x, e, f.n, f.errno)
		}
		e = next
		for k := len(all) - 1; k >= i; k-- {
			all[k].change(&e)
		}
		apply(t, x, e, f.n, f.errno)
	}
	apply(t, x, next, 3, api.OK)
}

// P11.2: late, too far in the future, and too many of one time, where that can be said of one time; only Read gives such partitions.
func TestErrorsOfTimes(t *testing.T) {
	c := api.Config{Late: 10, Ahead: 50, Rate: 2}
	x := read(t, c, "0;1000;5;0;2:0;,2;995;2;996;1;")
	apply(t, x, put(0, 989), 0, api.ErrLate)
	apply(t, x, put(0, 990), 0, api.ErrAhead)
	apply(t, x, put(0, 995), 0, api.ErrAhead)
	apply(t, x, put(0, 1001), 0, api.ErrAhead)
	apply(t, x, clock(945), 0, api.OK)
	apply(t, x, put(0, 996), 0, api.ErrAhead)
	apply(t, x, put(0, 995), 0, api.ErrRate)
	apply(t, x, clock(946), 0, api.OK)
	apply(t, x, put(0, 996), 5, api.OK)
	apply(t, x, put(1, 996), 0, api.ErrRate)
	apply(t, x, put(1, 994), 6, api.OK)
	shows(t, x, 946, 1000, 989, 999, 7, 7)
}

// P11.2: what a repetition is answered: the position, or that it is forgotten; neither is counted as refused.
func TestTwice(t *testing.T) {
	x := begin(t, api.Config{Late: 100, Ahead: 100, Rate: 2}, known())
	other := put(0, 0)
	other.Producer = 3
	for seq := range 30 {
		apply(t, x, put(seq, seq), seq*2, api.OK)
		other.Seq, other.Time = seq, seq
		apply(t, x, other, seq*2+1, api.OK)
	}
	for seq := range 30 {
		want := seq * 2
		if seq < 10 {
			want = -1
		}
		apply(t, x, put(seq, seq), want, api.ErrTwice)
		e := put(seq, -1)
		e.Source, e.Schema, e.Row = "none", 9, nil
		apply(t, x, e, want, api.ErrTwice)
	}
	shows(t, x, 0, 29, -1, 28, 60, 0)
}

// P11.2: refused records are counted, and leave the producer where it was.
func TestRefused(t *testing.T) {
	x := begin(t, example(), known())
	for i, time := range []int{-1, least, last + 1, huge, 101, last} {
		apply(t, x, put(0, time), 0, []api.Errno{api.ErrRange, api.ErrRange, api.ErrRange, api.ErrRange, api.ErrAhead, api.ErrAhead}[i])
		if x.Refused() != i+1 || len(x.Producers()) != 0 {
			t.Error(show(x))
		}
	}
	for _, e := range []api.Entry{put(1, 5), {Kind: api.EnPut}} {
		apply(t, x, e, 0, []api.Errno{api.ErrSchema, api.ErrGap}[e.Seq])
	}
	shows(t, x, 0, -1, -1, -1, 0, 8)
	for _, e := range []api.Entry{fence(-1), idle(-1), idle(101), clock(-1), {Kind: api.EnKinds}, {Kind: -1}} {
		x.Apply(e)
	}
	shows(t, x, 0, -1, -1, -1, 0, 8)
}

// P11.2: which rows fit which columns.
func TestRows(t *testing.T) {
	wide := make([]api.Col, 12)
	odd := []api.Known{
		{Source: "s", Schema: 1, Cols: []api.Col{{Name: "a"}, {Name: "b", Type: api.VText}, {Name: "c", Type: api.VBool}}},
		{Source: "s", Schema: 2},
		{Source: "s", Schema: 3, Cols: wide},
		{Source: "s", Schema: 4, Cols: make([]api.Col, 13)},
		{Source: "s", Schema: 5, Cols: []api.Col{{Name: "a", Type: api.VKinds}}},
		{Source: "s", Schema: 6, Cols: []api.Col{{Name: "a", Type: -1}}},
	}
	number, word, truth := api.Value{N: -5}, api.Value{Kind: api.VText, S: "x"}, api.Value{Kind: api.VBool, N: 1}
	long := api.Value{Kind: api.VText, S: strings.Repeat("x", 200)}
	for _, c := range []struct {
		schema int
		row    []api.Value
		want   api.Errno
	}{
		{1, []api.Value{number, word, truth}, api.OK},
		{1, []api.Value{{N: huge}, {Kind: api.VText}, {Kind: api.VBool}}, api.OK},
		{1, []api.Value{{N: least}, long, truth}, api.OK},
		{1, nil, api.ErrShape},
		{1, []api.Value{}, api.ErrShape},
		{1, []api.Value{number}, api.ErrShape},
		{1, []api.Value{number, word}, api.ErrShape},
		{1, []api.Value{number, word, truth, number}, api.ErrShape},
		{1, []api.Value{word, number, truth}, api.ErrShape},
		{1, []api.Value{number, truth, word}, api.ErrShape},
		{1, []api.Value{truth, word, truth}, api.ErrShape},
		{1, []api.Value{number, number, number}, api.ErrShape},
		{1, []api.Value{{N: 1, S: "x"}, word, truth}, api.ErrShape},
		{1, []api.Value{number, {Kind: api.VText, N: 1}, truth}, api.ErrShape},
		{1, []api.Value{number, {Kind: api.VText, S: long.S + "x"}, truth}, api.ErrShape},
		{1, []api.Value{number, word, {Kind: api.VBool, N: 2}}, api.ErrShape},
		{1, []api.Value{number, word, {Kind: api.VBool, N: -1}}, api.ErrShape},
		{1, []api.Value{number, word, {Kind: api.VBool, S: "x"}}, api.ErrShape},
		{2, nil, api.OK},
		{2, []api.Value{}, api.OK},
		{2, []api.Value{number}, api.ErrShape},
		{3, make([]api.Value, 12), api.OK},
		{3, make([]api.Value, 11), api.ErrShape},
		{3, make([]api.Value, 13), api.ErrShape},
		{4, make([]api.Value, 13), api.ErrShape},
		{4, make([]api.Value, 12), api.ErrShape},
		{5, []api.Value{{Kind: api.VKinds}}, api.ErrShape},
		{6, []api.Value{{Kind: -1}}, api.ErrShape},
	} {
		x := begin(t, example(), odd)
		e := put(0, 10)
		e.Schema, e.Row = c.schema, c.row
		apply(t, x, e, 0, c.want)
	}
}

// P11.2: of the known columns, the first ones with the source and the schema count.
func TestColumns(t *testing.T) {
	text, number := []api.Col{{Name: "a", Type: api.VText}}, []api.Col{{Name: "a"}}
	all := []api.Known{
		{Source: "r", Schema: 1, Cols: text},
		{Source: "s", Schema: 2, Cols: text},
		{Source: "s", Schema: 1, Cols: number},
		{Source: "s", Schema: 1, Cols: text},
		{Source: "S", Schema: 1, Cols: text},
		{Source: "", Schema: 0, Cols: number},
		{Source: "s", Schema: -4, Cols: number},
	}
	for _, c := range []struct {
		source string
		schema int
		number bool // whether it takes an int
		found  bool
	}{
		{"s", 1, true, true}, {"r", 1, false, true}, {"s", 2, false, true}, {"S", 1, false, true}, {"", 0, true, true}, {"s", -4, true, true},
		{"r", 2, false, false}, {"", 1, false, false}, {"s", 0, false, false}, {"s", 3, false, false}, {"s\x00", 1, false, false}, {"s", huge, false, false},
	} {
		for _, row := range [][]api.Value{{{}}, {{Kind: api.VText}}} {
			want := api.OK
			switch {
			case !c.found:
				want = api.ErrSchema
			case c.number != (row[0].Kind == api.VInt):
				want = api.ErrShape
			}
			e := put(0, 10)
			e.Source, e.Schema, e.Row = c.source, c.schema, row
			apply(t, begin(t, example(), all), e, 0, want)
		}
	}
}

// P11.2: what is closed, by Late, up to the record.
func TestLate(t *testing.T) {
	for _, late := range []int{0, 1, 2, 50, 9999, 10000} {
		x := begin(t, api.Config{Late: late, Ahead: 10000, Rate: 20}, known())
		apply(t, x, clock(20000), 0, api.OK)
		apply(t, x, put(0, 0), 0, api.OK)
		shows(t, x, 20000, 0, -1, -1, 1, 0)
		apply(t, x, put(1, late), 1, api.OK)
		shows(t, x, 20000, late, -1, max(-1, late-1), 2, 0)
		apply(t, x, put(2, 0), 2, api.OK)
		apply(t, x, put(3, late+1), 3, api.OK)
		shows(t, x, 20000, late+1, 0, late, 4, 0)
		apply(t, x, put(4, 0), 0, api.ErrLate)
		apply(t, x, put(4, 1), 4, api.OK)
		apply(t, x, put(5, 20000), 5, api.OK)
		shows(t, x, 20000, 20000, 19999-late, 19999, 6, 1)
		apply(t, x, put(6, 19999-late), 0, api.ErrLate)
		apply(t, x, put(6, 20000-late), 6, api.OK)
	}
}

// P11.2: what is too far in the future, by Ahead, for records and for idle producers.
func TestAhead(t *testing.T) {
	for _, ahead := range []int{0, 1, 10000} {
		for _, now := range []int{0, 1, 12345, last - 10001} {
			x := begin(t, api.Config{Ahead: ahead, Rate: 20}, known())
			apply(t, x, clock(now), 0, api.OK)
			apply(t, x, put(0, now+ahead+1), 0, api.ErrAhead)
			apply(t, x, idle(now+ahead+1), 0, api.ErrAhead)
			apply(t, x, put(0, last), 0, api.ErrAhead)
			apply(t, x, idle(last), 0, api.ErrAhead)
			shows(t, x, now, -1, -1, -1, 0, 2)
			y := x.Copy()
			apply(t, x, put(0, now+ahead), 0, api.OK)
			shows(t, x, now, now+ahead, now+ahead-1, now+ahead-1, 1, 2)
			apply(t, y, idle(now+ahead), 0, api.OK)
			shows(t, y, now, now+ahead, now+ahead-1, now+ahead-1, 0, 2)
		}
	}
}

// P11.2: at most Rate records of a time are accepted, and others after them.
func TestRate(t *testing.T) {
	for _, rate := range []int{1, 2, 19, 20} {
		x := begin(t, api.Config{Late: 3, Ahead: 9, Rate: rate}, known())
		seq := 0
		for _, time := range []int{4, 2, 3, 1, 5} {
			for i := range rate {
				apply(t, x, put(seq, time), seq, api.OK)
				seq++
				if x.Count(time) != i+1 {
					t.Errorf("%d of the time %d, not %d", x.Count(time), time, i+1)
				}
			}
			for range 2 {
				apply(t, x, put(seq, time), 0, api.ErrRate)
			}
		}
		shows(t, x, 0, 5, 1, 4, 5*rate, 10)
		apply(t, x, put(seq, 1), 0, api.ErrLate)
	}
}

// P11.2: EnFence is Fence of the producer, whatever else the entry says.
func TestFence(t *testing.T) {
	x := crowd(t)
	before := show(x)
	apply(t, x, fence(-1), 0, api.ErrArg)
	apply(t, x, fence(last), 0, api.ErrArg)
	apply(t, x, fence(8), 0, api.ErrFull)
	if show(x) != before {
		t.Errorf("%s, not %s", show(x), before)
	}
	e := api.Entry{Kind: api.EnFence, Producer: 7, Epoch: -3, Seq: -4, Source: "none", Schema: 9, Time: -1, Row: make([]api.Value, 99)}
	apply(t, x, e, 2, api.OK)
	apply(t, x, fence(7), 3, api.OK)
	apply(t, x, fence(1000), 2, api.OK)
	shows(t, x, 100, 100, 89, 99, 3, 0)
	if s := x.Producers(); len(s) != 50 || table(s[:2]) != "7 3 0 | 1000 2 0 | " {
		t.Error(table(s))
	}
	next := put(0, 95)
	next.Epoch = 2
	apply(t, x, next, 0, api.ErrFenced)
	next.Epoch = 3
	apply(t, x, next, 3, api.OK)
	top := read(t, example(), "0;-1;0;0;23:1;7;1099511627776;0;0[],0;")
	apply(t, top, fence(7), 0, api.ErrArg)
}

// P11.2: EnIdle raises Top, and nothing else.
func TestIdle(t *testing.T) {
	x := begin(t, example(), known())
	e := api.Entry{Kind: api.EnIdle, Producer: -1, Epoch: -1, Seq: -1, Source: "none", Schema: 9, Row: make([]api.Value, 99)}
	apply(t, x, e, 0, api.OK)
	shows(t, x, 0, 0, -1, -1, 0, 0)
	for _, c := range []struct {
		time int
		want api.Errno
		top  int
	}{
		{0, api.OK, 0}, {-1, api.ErrRange, 0}, {least, api.ErrRange, 0}, {last + 1, api.ErrRange, 0}, {huge, api.ErrRange, 0},
		{101, api.ErrAhead, 0}, {last, api.ErrAhead, 0}, {20, api.OK, 20}, {19, api.OK, 20}, {3, api.OK, 20}, {20, api.OK, 20}, {100, api.OK, 100},
	} {
		apply(t, x, idle(c.time), 0, c.want)
		shows(t, x, 0, c.top, max(-1, c.top-6), max(-1, c.top-3), 0, 0)
	}
	if len(x.Producers()) != 0 {
		t.Error(x.Producers())
	}
	apply(t, x, put(0, 94), 0, api.ErrLate)
	apply(t, x, put(0, 95), 0, api.OK)
	shows(t, x, 0, 100, 94, 97, 1, 1)
}

// P11.2: EnNow raises the clock, as far as it likes, and nothing else.
func TestClock(t *testing.T) {
	x := begin(t, example(), known())
	e := api.Entry{Kind: api.EnNow, Producer: -1, Epoch: -1, Seq: -1, Source: "none", Schema: 9, Row: make([]api.Value, 99)}
	apply(t, x, e, 0, api.OK)
	for _, c := range []struct {
		time int
		want api.Errno
		now  int
	}{
		{0, api.OK, 0}, {-1, api.ErrRange, 0}, {least, api.ErrRange, 0}, {last + 1, api.ErrRange, 0}, {huge, api.ErrRange, 0},
		{1, api.OK, 1}, {5000, api.OK, 5000}, {4999, api.OK, 5000}, {0, api.OK, 5000}, {last, api.OK, last}, {7, api.OK, last},
	} {
		apply(t, x, clock(c.time), 0, c.want)
		shows(t, x, c.now, -1, -1, -1, 0, 0)
	}
}

// P11.2: entries of kinds that do not exist.
func TestOtherKinds(t *testing.T) {
	x := crowd(t)
	before := show(x)
	for _, kind := range []int{-1, least, api.EnKinds, api.EnKinds + 1, 255, 256, huge} {
		e := put(1, 95)
		e.Kind, e.Epoch = kind, 1
		apply(t, x, e, 0, api.ErrArg)
		e.Time = -1
		apply(t, x, e, 0, api.ErrArg)
	}
	if show(x) != before {
		t.Errorf("%s, not %s", show(x), before)
	}
}

// P11.2, P11.4: the last event times, and a clock that leaps over all others.
func TestLastTimes(t *testing.T) {
	x := begin(t, api.Config{Delay: 3, Late: 10000, Ahead: 10000, Rate: 20}, known())
	apply(t, x, put(0, 5), 0, api.OK)
	apply(t, x, clock(last-1), 0, api.OK)
	apply(t, x, put(1, last+1), 0, api.ErrRange)
	apply(t, x, idle(last+1), 0, api.ErrRange)
	apply(t, x, put(1, last), 1, api.OK)
	shows(t, x, last-1, last, last-10001, last-4, 2, 1)
	if x.Count(last) != 1 || x.Count(5) != 0 || x.Count(last+1) != 0 {
		t.Error(show(x))
	}
	apply(t, x, put(2, last-10001), 0, api.ErrLate)
	apply(t, x, put(2, last-10000), 2, api.OK)
	apply(t, x, idle(last), 0, api.OK)
	apply(t, x, clock(last), 0, api.OK)
	shows(t, x, last, last, last-10001, last-4, 3, 2)
}

// P11.4: Closed and Mark are -1 until Top is far enough.
func TestMark(t *testing.T) {
	for _, c := range []api.Config{{Rate: 1}, {Late: 1, Rate: 1}, {Delay: 2, Late: 2, Rate: 1}, {Delay: 2, Late: 7, Rate: 1}, {Late: 7, Rate: 1}} {
		c.Ahead = 30
		x := begin(t, c, known())
		for time := range 20 {
			apply(t, x, idle(time), 0, api.OK)
			closed, mark := -1, -1
			if time-c.Late-1 > -1 {
				closed = time - c.Late - 1
			}
			if time-c.Delay-1 > -1 {
				mark = time - c.Delay - 1
			}
			shows(t, x, 0, time, closed, mark, 0, 0)
		}
	}
}

// P11.4: Count of open times, and of those that are closed, or never came.
func TestCount(t *testing.T) {
	x := begin(t, api.Config{Late: 4, Ahead: 50, Rate: 3}, known())
	for i, time := range []int{0, 10, 10, 8, 6, 10, 8, 7} {
		apply(t, x, put(i, time), i, api.OK)
	}
	counts := func() []int {
		var l []int
		for time := -2; time < 14; time++ {
			l = append(l, x.Count(time))
		}
		return append(l, x.Count(least), x.Count(huge), x.Count(last))
	}
	if got := counts(); !slices.Equal(got, []int{0, 0, 0, 0, 0, 0, 0, 0, 1, 1, 2, 0, 3, 0, 0, 0, 0, 0, 0}) {
		t.Error(got)
	}
	apply(t, x, idle(11), 0, api.OK)
	if got := counts(); !slices.Equal(got, []int{0, 0, 0, 0, 0, 0, 0, 0, 0, 1, 2, 0, 3, 0, 0, 0, 0, 0, 0}) {
		t.Error(got)
	}
	apply(t, x, put(8, 13), 8, api.OK)
	if got := counts(); !slices.Equal(got, []int{0, 0, 0, 0, 0, 0, 0, 0, 0, 0, 0, 0, 3, 0, 0, 1, 0, 0, 0}) {
		t.Error(got)
	}
	apply(t, x, put(9, 18), 9, api.OK)
	if got := counts(); !slices.Equal(got, make([]int, 19)) || x.Count(18) != 1 {
		t.Error(got)
	}
}

// P11.4: a copy has all that the partition has, and neither changes the other.
func TestCopy(t *testing.T) {
	x := crowd(t)
	apply(t, x, put(0, 1), 0, api.ErrFenced)
	before := show(x)
	next := put(1, 101)
	next.Epoch = 1
	change := []func(x *intake.Intake){
		func(x *intake.Intake) { apply(t, x, next, 3, api.OK) },
		func(x *intake.Intake) { apply(t, x, put(0, 1), 0, api.ErrFenced) },
		func(x *intake.Intake) { apply(t, x, fence(7), 2, api.OK) },
		func(x *intake.Intake) { apply(t, x, idle(120), 0, api.OK) },
		func(x *intake.Intake) { apply(t, x, clock(101), 0, api.OK) },
		func(x *intake.Intake) { x.Know(nil) },
	}
	for i, f := range change {
		y := x.Copy()
		if show(y) != before || counted(y) != counted(x) {
			t.Fatalf("the copy is %s, not %s", show(y), before)
		}
		z := y.Copy()
		f(y)
		if show(x) != before || show(z) != before || x.Count(100) != 1 || x.Count(101) != 0 {
			t.Errorf("change %d of a copy makes %s of %s", i, show(x), before)
		}
		f(z)
		if show(y) != show(z) || i < 5 && show(y) == before {
			t.Errorf("change %d makes %s of one copy, and %s of the other", i, show(y), show(z))
		}
		apply(t, x.Copy(), next, 3, api.OK)
	}
}

// P11.6: the known columns are not kept, neither by New, Know and Read, nor shared by a copy.
func TestKnownMemory(t *testing.T) {
	columns := make([]api.Col, 3)
	list := make([]api.Known, 3)
	fill := func() []api.Known {
		columns[0], columns[1] = api.Col{Name: "a"}, api.Col{Name: "b", Type: api.VText}
		list[0], list[1] = api.Known{Source: "s", Schema: 1, Cols: columns[:1]}, api.Known{Source: "r", Schema: 1, Cols: columns[1:2]}
		return list[:1]
	}
	spoil := func() {
		clear(list)
		columns[0].Type, columns[1].Type, columns[2].Type = api.VBool, api.VBool, api.VBool
	}
	know := begin(t, example(), nil)
	know.Know(fill())
	back, _ := intake.Read(example(), fill(), know.Bytes())
	for i, x := range []*intake.Intake{begin(t, example(), fill()), know, back, know.Copy()} {
		if list[1].Source != "r" || columns[1].Name != "b" || columns[0] != (api.Col{Name: "a"}) {
			t.Errorf("way %d changes its argument", i)
		}
		e := put(0, 10)
		e.Source, e.Row = "r", []api.Value{{Kind: api.VText}}
		apply(t, x, e, 0, api.ErrSchema)
		spoil()
		apply(t, x, put(0, 10), 0, api.OK)
		fill()
	}
}

// P11.6: a table that is returned is not that of the partition, and its lists of positions are apart.
func TestProducersMemory(t *testing.T) {
	x := crowd(t)
	next := put(1, 95)
	next.Epoch = 1
	apply(t, x, next, 3, api.OK)
	before := show(x)
	s := x.Producers()
	want := table(s)
	for i := range s {
		s[i].Last = append(s[i].Last, -5, -6)
	}
	for i := range s {
		if l := s[i].Last; l[len(l)-2] != -5 || l[len(l)-1] != -6 {
			t.Errorf("the positions of %d follow others: %v", i, l)
		}
	}
	s = x.Producers()
	for i := range s {
		for k := range s[i].Last {
			s[i].Last[k] = -1
		}
		s[i] = api.Producer{Id: -1}
	}
	clear(s[:cap(s)])
	if show(x) != before || table(x.Producers()) != want {
		t.Errorf("%s, not %s", show(x), before)
	}
}

// P11.6: entries are neither changed nor kept.
func TestEntryMemory(t *testing.T) {
	x := begin(t, example(), known())
	row := []api.Value{{N: 5}, {N: 6}, {N: 7}}
	e := put(0, 10)
	e.Row = row[:1]
	apply(t, x, e, 0, api.OK)
	if !slices.Equal(row, []api.Value{{N: 5}, {N: 6}, {N: 7}}) {
		t.Error(row)
	}
	before := show(x)
	clear(row)
	if show(x) != before {
		t.Errorf("%s, not %s", show(x), before)
	}
}
