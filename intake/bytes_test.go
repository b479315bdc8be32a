package intake_test

import (
	"strconv"
	"strings"
	"testing"

	"errata/api"
	"errata/intake"
	"errata/producer"
)

// parts are the parts of an encoding, as they are written.
type parts struct {
	now, top, next, refused, table, count, counts string
}

// text puts the parts together.
func (p parts) text() string {
	return p.now + p.top + p.next + p.refused + p.table + p.count + p.counts
}

// middle is an encoding for the configuration of wide: Closed is 19.
func middle() parts {
	return parts{"40;", "30;", "5;", "2;", "15:1;7;0;2;2[3;4;],", "2;", "20;1;30;3;"}
}

// wide is a configuration with room for several records and times.
func wide() api.Config { return api.Config{Delay: 4, Late: 10, Ahead: 50, Rate: 3} }

// rightTexts returns strings that are encodings for the configuration of wide.
func rightTexts() []string {
	far := strconv.Itoa(last)
	var texts []string
	add := func(change func(p *parts)) {
		p := middle()
		change(&p)
		texts = append(texts, p.text())
	}
	add(func(p *parts) {})
	add(func(p *parts) { p.now = "0;" })
	add(func(p *parts) { p.now = far + ";" })
	add(func(p *parts) { p.next = "0;" })
	add(func(p *parts) { p.next = far + ";" })
	add(func(p *parts) { p.refused = "0;" })
	add(func(p *parts) { p.refused = strconv.Itoa(huge) + ";" })
	add(func(p *parts) { p.table = "2:0;," })
	add(func(p *parts) { p.table = "23:1;1099511627776;0;0;0[]," })
	add(func(p *parts) { p.count, p.counts = "0;", "" })
	add(func(p *parts) { p.count, p.counts = "1;", "20;3;" })
	add(func(p *parts) { p.count, p.counts = "1;", "30;1;" })
	add(func(p *parts) { p.count, p.counts = "3;", "20;1;21;2;22;3;" })
	add(func(p *parts) { p.top, p.count, p.counts = "-1;", "0;", "" })
	add(func(p *parts) { p.top, p.count, p.counts = "0;", "1;", "0;1;" })
	add(func(p *parts) { p.top, p.count, p.counts = "10;", "2;", "0;1;10;1;" })
	add(func(p *parts) { p.top, p.count, p.counts = "11;", "2;", "1;1;11;1;" })
	add(func(p *parts) { p.top, p.count, p.counts = far+";", "1;", far+";3;" })
	add(func(p *parts) { p.top, p.count, p.counts = far+";", "1;", strconv.Itoa(last-10)+";3;" })
	return texts
}

// P11.5: what a partition says is written as the chapter says.
func TestBytes(t *testing.T) {
	x := begin(t, example(), known())
	for _, c := range []struct {
		e    api.Entry
		want string
	}{
		{idle(0), "0;0;0;0;2:0;,0;"},
		{put(0, 10), "0;10;1;0;13:1;7;0;1;1[0;],1;10;1;"},
		{put(0, 10), "0;10;1;0;13:1;7;0;1;1[0;],1;10;1;"},
		{put(1, 10), "0;10;1;1;13:1;7;0;1;1[0;],1;10;1;"},
		{put(1, 5), "0;10;2;1;15:1;7;0;2;2[0;1;],2;5;1;10;1;"},
		{clock(300), "300;10;2;1;15:1;7;0;2;2[0;1;],2;5;1;10;1;"},
		{idle(11), "300;11;2;1;15:1;7;0;2;2[0;1;],1;10;1;"},
		{put(2, 9), "300;11;3;1;17:1;7;0;3;3[0;1;2;],2;9;1;10;1;"},
		{put(3, 100), "300;100;4;1;19:1;7;0;4;4[0;1;2;3;],1;100;1;"},
		{fence(7), "300;100;4;1;11:1;7;1;0;0[],1;100;1;"},
		{fence(12), "300;100;4;1;21:2;7;1;0;0[]12;1;0;0[],1;100;1;"},
		{idle(400), "300;400;4;1;21:2;7;1;0;0[]12;1;0;0[],0;"},
	} {
		x.Apply(c.e)
		if got := x.Bytes(); got != c.want {
			t.Errorf("after %v: %q, not %q", c.e, got, c.want)
		}
		if got := show(read(t, example(), c.want)); got != show(x) {
			t.Errorf("%q is read as %s, not %s", c.want, got, show(x))
		}
	}
}

// P11.5: times are written in ascending order, in whatever order they came.
func TestBytesOrder(t *testing.T) {
	want := "0;102;100;0;"
	x := begin(t, api.Config{Late: 200, Ahead: 200, Rate: 2}, known())
	for i := range 100 {
		e := put(0, 3+i*37%100)
		e.Producer = i % 40
		e.Seq = i / 40
		apply(t, x, e, i, api.OK)
	}
	body := producer.Bytes(x.Producers())
	want += strconv.Itoa(len(body)) + ":" + body + ",100;"
	for time := 3; time < 103; time++ {
		want += strconv.Itoa(time) + ";1;"
	}
	for range 5 {
		if got := x.Bytes(); got != want {
			t.Fatalf("%q, not %q", got, want)
		}
	}
}

// P11.5: Read inverts Bytes, at the limits too, and what it returns is all there.
func TestRead(t *testing.T) {
	for _, s := range rightTexts() {
		x := read(t, wide(), s)
		if x.Bytes() != s {
			t.Errorf("%q is read as %q", s, x.Bytes())
		}
		y := x.Copy()
		if show(y) != show(x) || counted(y) != counted(x) {
			t.Errorf("%q: a copy is %s", s, show(y))
		}
	}
	x := read(t, wide(), middle().text())
	shows(t, x, 40, 30, 19, 25, 5, 2)
	if table(x.Producers()) != "7 0 2 3 4 | " || x.Count(20) != 1 || x.Count(30) != 3 || x.Count(25) != 0 || x.Count(19) != 0 {
		t.Error(show(x))
	}
	apply(t, x, put(1, 25), 4, api.ErrTwice)
	apply(t, x, put(2, 19), 0, api.ErrLate)
	apply(t, x, put(2, 30), 0, api.ErrRate)
	apply(t, x, put(2, 91), 0, api.ErrAhead)
	apply(t, x, put(2, 20), 5, api.OK)
	apply(t, x, put(3, 31), 6, api.OK)
	if got := x.Bytes(); got != "40;31;7;5;19:1;7;0;4;4[3;4;5;6;],2;30;3;31;1;" {
		t.Errorf("%q", got)
	}
}

// P11.5: Read takes the configuration and the known columns that it is given.
func TestReadOther(t *testing.T) {
	s := middle().text()
	x, ok := intake.Read(wide(), nil, s)
	if !ok || x.Bytes() != s {
		t.Fatalf("%q is not read", s)
	}
	apply(t, x, put(2, 25), 0, api.ErrSchema)
	c := wide()
	c.Late, c.Delay, c.Ahead = 20, 7, 51
	x = read(t, c, s)
	shows(t, x, 40, 30, 9, 22, 5, 2)
	apply(t, x, put(2, 91), 5, api.OK)
	c.Late = 11
	refused(t, wide(), parts{"40;", "30;", "5;", "2;", "2:0;,", "1;", "19;1;"}.text())
	read(t, c, parts{"40;", "30;", "5;", "2;", "2:0;,", "1;", "19;1;"}.text())
	c.Rate = 2
	refused(t, c, s)
	c.Rate, c.Late = 3, 9
	refused(t, c, s)
}

// refused checks that a string is not read.
func refused(t *testing.T, c api.Config, s string) {
	t.Helper()
	if x, ok := intake.Read(c, known(), s); ok || x != nil {
		t.Errorf("%.300q is read", s)
	}
}

// wrong are changes of an encoding after which it is none.
func wrong() []func(p *parts) {
	far := strconv.Itoa(last + 1)
	var all []func(p *parts)
	for _, n := range []string{"", "-1;", "-2;", "-0;", "05;", "+5;", "5", "5:", ";", "x;", " 5;", "5;;", far + ";", "9223372036854775807;", "9223372036854775808;", "-9223372036854775808;", "18446744073709551621;"} {
		all = append(all, func(p *parts) { p.now = n }, func(p *parts) { p.next = n }, func(p *parts) { p.count = n })
		if n != "-1;" {
			all = append(all, func(p *parts) { p.top, p.count, p.counts = n, "0;", "" })
		}
		if n != far+";" && n != "9223372036854775807;" {
			all = append(all, func(p *parts) { p.refused = n })
		}
	}
	for _, s := range []string{"", "0:,", "1:0,", "2:0;", "2:00,", "3:0;0,", "3:0;,", "2:1;,", "11:1;-1;0;0;0[],", "13:1;7;0;1;2[3;],", "15:1;7;0;2;2[4;3;],", "22:2;7;0;0;0[]7;0;0;0[],", "02:0;,", "-1:0;,", "2;0;,", "9223372036854775807:0;,"} {
		all = append(all, func(p *parts) { p.table = s })
	}
	for _, n := range []string{"0;", "1;", "3;", "02;", "4;", "2147483648;"} {
		all = append(all, func(p *parts) { p.count = n })
	}
	for _, s := range []string{"20;1;", "20;1;30;", "20;1;30;3", "20;1;30;3;0;", "20;1;30;3;31;1;", "30;3;20;1;", "20;1;20;1;", "30;1;30;1;", "19;1;30;3;", "-1;1;30;3;", "0;1;30;3;", "20;1;31;3;", "20;0;30;3;", "20;4;30;3;", "20;1;30;0;", "20;1;30;4;", "20;-1;30;3;", "20;1;30;-1;", "20;1;30;03;", "020;1;30;3;", "20;1;x;3;", "20;1;30;9223372036854775807;", "20;1;9223372036854775807;3;", "20;1;-9223372036854775808;3;", "20;1;30;3;;"} {
		all = append(all, func(p *parts) { p.counts = s })
	}
	// Before the first record and before the first time, no time is open.
	for _, s := range []string{"-1;1;", "0;1;", "1;1;"} {
		all = append(all, func(p *parts) { p.top, p.count, p.counts = "-1;", "1;", s })
	}
	return append(all,
		func(p *parts) { p.top, p.count, p.counts = "0;", "1;", "-1;1;" },
		func(p *parts) { p.top, p.count, p.counts = "0;", "1;", "1;1;" },
		func(p *parts) { p.top, p.count, p.counts = "11;", "1;", "0;1;" },
		func(p *parts) { p.count, p.counts = "3;", "20;1;22;1;21;1;" },
		func(p *parts) { p.count, p.counts = "3;", "20;1;30;3;30;3;" },
	)
}

// P11.5: what is no encoding is not read.
func TestReadWrong(t *testing.T) {
	for i, change := range wrong() {
		p := middle()
		change(&p)
		if x, ok := intake.Read(wide(), known(), p.text()); ok || x != nil {
			t.Errorf("change %d: %q is read", i, p.text())
		}
	}
	for _, s := range rightTexts() {
		for i := range s {
			refused(t, wide(), s[:i])
		}
		for _, more := range []string{"0;", ";", ",", "]", " ", "\x00", "31;1;", "x"} {
			refused(t, wide(), s+more)
			refused(t, wide(), more+s+more)
		}
	}
	refused(t, wide(), "0;10;0;0;2:0;,9223372036854775807;")
	refused(t, wide(), "0;10;0;0;2:0;,1000000;"+strings.Repeat("5;1;", 1000))
}

// P11.5: no partition has more producers than a table can have.
func TestReadProducers(t *testing.T) {
	var body strings.Builder
	for id := range 51 {
		body.WriteString(strconv.Itoa(id) + ";1;0;0[]")
		count := strconv.Itoa(id+1) + ";"
		size := strconv.Itoa(len(count) + body.Len())
		s := "0;-1;0;0;" + size + ":" + count + body.String() + ",0;"
		if id == 50 {
			refused(t, wide(), s)
		} else if x := read(t, wide(), s); len(x.Producers()) != id+1 || x.Bytes() != s {
			t.Errorf("%q is read as %s", s, show(x))
		}
	}
}

// P11.5: of all strings that differ from an encoding in one byte, only those are read that are encodings.
func TestReadChanged(t *testing.T) {
	found := 0
	for _, s := range rightTexts() {
		for i := range len(s) {
			for c := range 256 {
				changed := s[:i] + string([]byte{byte(c)}) + s[i+1:]
				x, ok := intake.Read(wide(), known(), changed)
				if !ok && x != nil || ok && (x.Bytes() != changed || !possible(x)) {
					t.Errorf("%q is read as %v, %v", changed, x, ok)
				}
				if ok {
					found++
				}
			}
		}
	}
	if found < 500 {
		t.Error("only", found, "were read")
	}
}

// possible reports whether what a partition shows can be read, for the configuration of wide.
func possible(x *intake.Intake) bool {
	within := func(n, low int) bool { return n >= low && n <= last }
	if !within(x.Now(), 0) || !within(x.Next(), 0) || !within(x.Top(), -1) || x.Refused() < 0 || !producer.Right(x.Producers()) {
		return false
	}
	for time := max(x.Top()-10, 0); time <= x.Top(); time++ {
		if n := x.Count(time); n < 0 || n > 3 {
			return false
		}
	}
	return x.Count(x.Top()+1) == 0 && x.Count(x.Closed()) == 0
}

// P11.2, P11.5: Read does not look whether positions are below the next one, so that Put may leave the table as it is; the record is accepted all the same.
func TestReadPositions(t *testing.T) {
	x := read(t, wide(), "0;-1;5;0;13:1;7;0;1;1[9;],0;")
	for pos := 5; pos < 8; pos++ {
		apply(t, x, put(1, pos), pos, api.OK)
	}
	if got := x.Bytes(); got != "0;7;8;0;13:1;7;0;1;1[9;],3;5;1;6;1;7;1;" {
		t.Errorf("%q", got)
	}
	x = read(t, wide(), "0;-1;1099511627776;0;2:0;,0;")
	apply(t, x, put(0, 1), last, api.OK)
	apply(t, x, put(1, 2), last+1, api.OK)
	if x.Next() != last+2 || table(x.Producers()) != "7 0 1 1099511627776 | " {
		t.Error(show(x))
	}
	x = read(t, wide(), "0;-1;0;9223372036854775807;2:0;,0;")
	if _, errno := x.Apply(put(1, 1)); errno != api.ErrGap || x.Refused() != least {
		t.Error(show(x))
	}
}
