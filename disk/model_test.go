package disk_test

import (
	"strings"

	"errata/api"
	"errata/disk"
)

// machine has the calls of a disk that can change something.
type machine interface {
	Read(f, at, size int) (string, api.Errno)
	Write(f, at int, s string) api.Errno
	Sync(f int) api.Errno
	Truncate(f, size int) api.Errno
	Size(f int) int
	Lose(n int)
	Arm(n int, keep []int)
	Crash(keep []int)
	Start()
	Down() bool
}

var _ machine = (*disk.Disk)(nil)

// model is a disk as the chapter defines it, word by word.
type model struct {
	file, durable [16]string
	pending       [][2]int
	down          bool
	lost          int
	n             int
	keep          []int
}

func (m *model) copy() *model {
	c := *m
	c.pending = append([][2]int(nil), m.pending...)
	return &c
}

func (m *model) Down() bool { return m.down }
func (m *model) Start()     { m.down = false }
func (m *model) Lose(n int) { m.lost = max(n, 0) }

func (m *model) Arm(n int, keep []int) { m.n, m.keep = max(n, 0), keep }

func (m *model) Size(f int) int {
	if f < 0 || f > 15 {
		return 0
	}
	return len(m.file[f])
}

func (m *model) Read(f, at, size int) (string, api.Errno) {
	switch {
	case m.down:
		return "", api.ErrDown
	case f < 0 || f > 15 || at < 0 || size < 0:
		return "", api.ErrArg
	}
	var s []byte
	for i := at; i < len(m.file[f]) && i-at < size; i++ {
		s = append(s, m.file[f][i])
	}
	return string(s), api.OK
}

// due counts a call, and reports whether it is the one with the crash.
func (m *model) due() bool {
	if m.n == 0 {
		return false
	}
	m.n--
	return m.n == 0
}

func (m *model) Write(f, at int, s string) api.Errno {
	if m.down {
		return api.ErrDown
	}
	due := m.due()
	e := api.OK
	switch {
	case f < 0 || f > 15 || at < 0:
		e = api.ErrArg
	case at > 1<<24-len(s):
		e = api.ErrFull
	default:
		m.file[f] = modelPut(m.file[f], at, s)
		for n := range 1 << 18 {
			if 64*n >= at+len(s) {
				break
			}
			if s != "" && 64*n+63 >= at && !m.has(f, n) {
				m.pending = append(m.pending, [2]int{f, n})
			}
		}
	}
	if due {
		m.Crash(m.keep)
		return api.ErrDown
	}
	return api.Errno(e)
}

func (m *model) Sync(f int) api.Errno {
	switch {
	case m.down:
		return api.ErrDown
	case m.due():
		m.Crash(m.keep)
		return api.ErrDown
	case f < 0 || f > 15:
		return api.ErrArg
	case m.lost > 0:
		m.lost--
		return api.ErrLost
	}
	m.durable[f] = m.file[f]
	m.forget(f)
	return api.OK
}

func (m *model) Truncate(f, size int) api.Errno {
	switch {
	case m.down:
		return api.ErrDown
	case m.due():
		m.Crash(m.keep)
		return api.ErrDown
	case f < 0 || f > 15 || size < 0 || size > len(m.file[f]):
		return api.ErrArg
	}
	m.file[f] = m.file[f][:size]
	m.durable[f] = m.file[f]
	m.forget(f)
	return api.OK
}

func (m *model) Crash(keep []int) {
	if m.down {
		return
	}
	for i, p := range m.pending {
		if len(keep) == 0 || keep[i%len(keep)]&1 == 0 {
			continue
		}
		s := m.file[p[0]][64*p[1]:]
		if len(s) > 64 {
			s = s[:64]
		}
		m.durable[p[0]] = modelPut(m.durable[p[0]], 64*p[1], s)
	}
	m.file = m.durable
	m.pending, m.n, m.down = nil, 0, true
}

func (m *model) has(f, n int) bool {
	for _, p := range m.pending {
		if p == [2]int{f, n} {
			return true
		}
	}
	return false
}

func (m *model) forget(f int) {
	var l [][2]int
	for _, p := range m.pending {
		if p[0] != f {
			l = append(l, p)
		}
	}
	m.pending = l
}

func modelPut(b string, at int, s string) string {
	if s == "" {
		return b
	}
	if len(b) < at {
		b += strings.Repeat("\x00", at-len(b))
	}
	end := ""
	if at+len(s) < len(b) {
		end = b[at+len(s):]
	}
	return b[:at] + s + end
}
