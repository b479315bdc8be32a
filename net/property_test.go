package net_test

import (
	"slices"
	"strconv"
	"testing"

	"errata/api"
	"errata/net"
)

// network has the calls of a network that can change something.
type network interface {
	Send(from, to int, body string) api.Errno
	Deliver(i int) (api.Packet, api.Errno)
	Drop(i int) api.Errno
	Double(i int) api.Errno
	Split(mask int)
	Heal()
}

var _ network = (*net.Net)(nil)

// model is a network as the chapter defines it, word by word.
type model struct {
	list  []api.Packet
	apart [16]bool // the ends whose bit is set
}

func (m *model) copy() *model {
	return &model{list: append([]api.Packet(nil), m.list...), apart: m.apart}
}

func (m *model) Hear(a, b int) bool {
	return a >= 0 && a <= 15 && b >= 0 && b <= 15 && m.apart[a] == m.apart[b]
}

func (m *model) Send(from, to int, body string) api.Errno {
	switch {
	case from < 0 || from > 15 || to < 0 || to > 15 || from == to:
		return api.ErrArg
	case !m.Hear(from, to):
		return api.ErrLost
	case len(m.list) == 500:
		return api.ErrFull
	}
	m.list = append(m.list, api.Packet{From: from, To: to, Body: body})
	return api.OK
}

func (m *model) Deliver(i int) (api.Packet, api.Errno) {
	if i < 0 || i >= len(m.list) {
		return api.Packet{}, api.ErrNone
	}
	p := m.list[i]
	m.Drop(i)
	if !m.Hear(p.From, p.To) {
		return api.Packet{}, api.ErrLost
	}
	return p, api.OK
}

func (m *model) Drop(i int) api.Errno {
	if i < 0 || i >= len(m.list) {
		return api.ErrNone
	}
	var rest []api.Packet
	for k, p := range m.list {
		if k != i {
			rest = append(rest, p)
		}
	}
	m.list = rest
	return api.OK
}

func (m *model) Double(i int) api.Errno {
	switch {
	case i < 0 || i >= len(m.list):
		return api.ErrNone
	case len(m.list) == 500:
		return api.ErrFull
	}
	m.list = append(m.list, m.list[i])
	return api.OK
}

func (m *model) Split(mask int) {
	for end, bit := 0, 1; end < 16; end, bit = end+1, 2*bit {
		m.apart[end] = mask&bit != 0
	}
}

func (m *model) Heal() { m.Split(0) }

// same reports whether all that can be seen of the two is the same.
func same(n *net.Net, m *model) bool {
	for a := -1; a < 17; a++ {
		for b := -1; b < 17; b++ {
			if n.Hear(a, b) != m.Hear(a, b) {
				return false
			}
		}
	}
	return slices.Equal(n.List(), m.list) && n.Count() == len(m.list)
}

// result is what a call returns.
type result struct {
	p api.Packet
	e api.Errno
}

// calls are those of the sequences that are compared with the model.
func calls() []func(n network) result {
	var l []func(n network) result
	for _, p := range []api.Packet{{From: 0, To: 1, Body: "a"}, {From: 1, To: 2, Body: "b"}, {From: 2, To: 0, Body: ""}, {From: 2, To: 2}, {From: 3, To: 16}} {
		l = append(l, func(n network) result { return result{e: n.Send(p.From, p.To, p.Body)} })
	}
	for _, mask := range []int{1, 6 | 1<<16, -1} {
		l = append(l, func(n network) result { n.Split(mask); return result{} })
	}
	for _, i := range []int{0, 1} {
		l = append(l,
			func(n network) result { p, e := n.Deliver(i); return result{p, e} },
			func(n network) result { return result{e: n.Drop(i)} },
			func(n network) result { return result{e: n.Double(i)} })
	}
	return append(l, func(n network) result { n.Heal(); return result{} })
}

// P7.1 to P7.4: all short sequences of calls against the chapter's definitions.
func TestSequences(t *testing.T) {
	all := calls()
	var walk func(n *net.Net, m *model, path []int)
	walk = func(n *net.Net, m *model, path []int) {
		if len(path) == 4 {
			return
		}
		for i, call := range all {
			c, d := n.Copy(), m.copy()
			next := append(slices.Clip(path), i)
			if got, want := call(c), call(d); got != want || !same(c, d) {
				t.Fatalf("the calls %v: the last one returns %v, not %v, or they differ", next, got, want)
			}
			walk(c, d, next)
		}
		if !same(n, m) {
			t.Fatalf("the calls %v: a copy changes the network", path)
		}
	}
	walk(net.New(), &model{}, nil)
}

// numbers returns a function that yields a fixed sequence of numbers.
func numbers(seed uint64) func(n int) int {
	return func(n int) int {
		seed = seed*6364136223846793005 + 1442695040888963407
		return int(seed>>33) % n
	}
}

// step is a call with its arguments.
type step struct {
	kind, a, b int
	body       string
}

const (
	sends = iota
	delivers
	drops
	doubles
	splits
	heals
)

// steps returns a function that yields calls; most of them send, as long as the network is not as full as it shall be.
func steps(seed int) func(count int) step {
	next := numbers(uint64(seed))
	most := []int{5, 50, 505}[seed%3]
	return func(count int) step {
		kind, i := next(12), next(count+2)-next(2)
		switch {
		case kind == splits:
			return step{kind: splits, a: next(1<<17) - next(1<<17)}
		case kind == heals:
			return step{kind: heals}
		case kind < splits && (kind != sends || count >= most):
			return step{kind: max(kind, delivers), a: i}
		case kind == 6 && count < most:
			return step{kind: doubles, a: i}
		}
		return step{kind: sends, a: next(17) - next(2), b: next(17) - next(2), body: strconv.Itoa(next(3))}
	}
}

func (s step) make(n network) (r result) {
	switch s.kind {
	case sends:
		r.e = n.Send(s.a, s.b, s.body)
	case delivers:
		r.p, r.e = n.Deliver(s.a)
	case drops:
		r.e = n.Drop(s.a)
	case doubles:
		r.e = n.Double(s.a)
	case splits:
		n.Split(s.a)
	case heals:
		n.Heal()
	}
	return r
}

// P7.1 to P7.4: long sequences against the chapter's definitions, up to full networks.
func TestLongSequences(t *testing.T) {
	seen := map[api.Errno]int{}
	for seed := range 60 {
		next := steps(seed)
		n, m := net.New(), &model{}
		for i := range 3000 {
			s := next(len(m.list))
			got, want := s.make(n), s.make(m)
			if got != want || n.Count() != len(m.list) || i%20 == 0 && !same(n, m) {
				t.Fatalf("the sequence %d: the call %d, %v, returns %v, not %v, or they differ", seed, i, s, got, want)
			}
			seen[got.e]++
			if i%100 == 0 {
				n = n.Copy()
			}
		}
		if !same(n, m) {
			t.Fatalf("the sequence %d: they differ", seed)
		}
	}
	for _, e := range []api.Errno{api.OK, api.ErrArg, api.ErrLost, api.ErrFull, api.ErrNone} {
		if seen[e] < 20 {
			t.Errorf("the result %d came only %d times", e, seen[e])
		}
	}
}

// P7.5: what is delivered was sent before, while its ends heard each other, and not more often, but for Double; and
// its ends hear each other when it is delivered.
func TestDelivered(t *testing.T) {
	for seed := range 90 {
		doubling := seed%2 == 1
		next := steps(seed)
		n := net.New()
		mask, arrived := 0, 0
		left := map[api.Packet]int{} // how often each packet was sent or doubled, without how often it was delivered
		for range 2000 {
			s := next(n.Count())
			if s.kind == doubles && !doubling {
				continue
			}
			list := n.List()
			r := s.make(n)
			together := func(a, b int) bool { return mask>>a&1 == mask>>b&1 }
			switch {
			case s.kind == splits:
				mask = s.a
			case s.kind == heals:
				mask = 0
			case r.e != api.OK:
			case s.kind == sends:
				if !together(s.a, s.b) {
					t.Fatalf("the sequence %d: %d sends to %d, which does not hear it", seed, s.a, s.b)
				}
				left[api.Packet{From: s.a, To: s.b, Body: s.body}]++
			case s.kind == doubles:
				left[list[s.a]]++
			case s.kind == delivers:
				left[r.p]--
				arrived++
				if left[r.p] < 0 || !together(r.p.From, r.p.To) {
					t.Fatalf("the sequence %d: %v is delivered, which was not sent so often, or whose ends are apart", seed, r.p)
				}
			}
		}
		if arrived < 50 {
			t.Errorf("the sequence %d: only %d packets arrive", seed, arrived)
		}
	}
}

// P7.5: as long as no packet is lost, all that was sent is delivered, in whatever order.
func TestAllDelivered(t *testing.T) {
	for seed := range 20 {
		next := numbers(uint64(seed))
		n := net.New()
		left := map[api.Packet]int{}
		for range 400 {
			p := api.Packet{From: next(16), To: next(16), Body: strconv.Itoa(next(2))}
			if n.Send(p.From, p.To, p.Body) == api.OK {
				left[p]++
			}
		}
		for n.Count() > 0 {
			p, e := n.Deliver(next(n.Count()))
			ok(t, e)
			left[p]--
			if left[p] == 0 {
				delete(left, p)
			}
		}
		if len(left) != 0 {
			t.Errorf("the sequence %d: %v are delivered too often or not often enough", seed, left)
		}
	}
}
