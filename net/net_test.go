package net_test

import (
	"math"
	"slices"
	"strconv"
	"strings"
	"testing"

	"errata/api"
	"errata/net"
)

const huge, least = math.MaxInt, math.MinInt

func ok(t *testing.T, e api.Errno) {
	t.Helper()
	if e != api.OK {
		t.Fatalf("the call returns %d", e)
	}
}

// packet returns the packet with a body that is sent from the end 0 to the end 1.
func packet(body string) api.Packet { return api.Packet{From: 0, To: 1, Body: body} }

// has checks the packets in flight.
func has(t *testing.T, n *net.Net, want ...api.Packet) {
	t.Helper()
	if got := n.List(); !slices.Equal(got, want) {
		t.Errorf("in flight are %v, not %v", got, want)
	}
	if n.Count() != len(want) {
		t.Errorf("%d packets are in flight, not %d", n.Count(), len(want))
	}
}

// bodies checks the bodies of the packets in flight, all of which are from 0 to 1.
func bodies(t *testing.T, n *net.Net, want ...string) {
	t.Helper()
	var l []api.Packet
	for _, b := range want {
		l = append(l, packet(b))
	}
	has(t, n, l...)
}

// sending returns a network in which packets with the bodies were sent from 0 to 1.
func sending(t *testing.T, bodies ...string) *net.Net {
	t.Helper()
	n := net.New()
	for _, b := range bodies {
		ok(t, n.Send(0, 1, b))
	}
	return n
}

// full returns a network with Most packets, whose bodies are their numbers.
func full(t *testing.T) *net.Net {
	t.Helper()
	n := net.New()
	for i := range net.Most {
		ok(t, n.Send(0, 1, strconv.Itoa(i)))
	}
	return n
}

// P7.1: the limits that the chapter declares.
func TestConstants(t *testing.T) {
	if net.Most != 500 || net.Ends != 16 {
		t.Errorf("%d packets, %d ends", net.Most, net.Ends)
	}
}

// P7.1: a new network is empty, and all ends are on the same side; no two networks share anything.
func TestNew(t *testing.T) {
	n := net.New()
	has(t, n)
	for a := range 16 {
		for b := range 16 {
			if !n.Hear(a, b) {
				t.Errorf("%d and %d do not hear each other", a, b)
			}
		}
	}
	n.Split(1)
	ok(t, n.Send(1, 2, "a"))
	m := net.New()
	has(t, m)
	if !m.Hear(0, 1) {
		t.Error("a new network is split")
	}
}

// P7.1: every end can send to every other one, and the packets come one after the other.
func TestSendAll(t *testing.T) {
	n := net.New()
	var want []api.Packet
	for a := range 16 {
		for b := range 16 {
			p := api.Packet{From: a, To: b, Body: strconv.Itoa(100*a + b)}
			e := n.Send(p.From, p.To, p.Body)
			switch {
			case a == b && e != api.ErrArg:
				t.Errorf("%d sends to itself: %d", a, e)
			case a != b && e != api.OK:
				t.Errorf("%d sends to %d: %d", a, b, e)
			case a != b:
				want = append(want, p)
			}
		}
	}
	has(t, n, want...)
}

// P7.1, P7.5: a body is any string, and arrives as it was sent.
func TestBodies(t *testing.T) {
	l := []string{"", "a", "a", "\x00\xff\n", "é,;[]", strings.Repeat("x", 1<<20)}
	n := sending(t, l...)
	bodies(t, n, l...)
	for i, b := range l {
		if p, e := n.Deliver(0); p != packet(b) || e != api.OK {
			t.Errorf("the packet %d: %.50v, %d", i, p, e)
		}
	}
	has(t, n)
}

// P7.1: what is no end, in any state of the network, and before any other error.
func TestSendArg(t *testing.T) {
	split := net.New()
	split.Split(1)
	crowded := full(t)
	crowded.Split(1)
	for i, n := range []*net.Net{net.New(), split, full(t), crowded} {
		before := n.List()
		for _, bad := range []int{-1, -2, -16, 16, 17, 32, 64, 1 << 32, 1<<32 + 1, huge, least} {
			for end := range 16 {
				if e := n.Send(bad, end, "x"); e != api.ErrArg {
					t.Errorf("the network %d: from %d to %d: %d", i, bad, end, e)
				}
				if e := n.Send(end, bad, "x"); e != api.ErrArg {
					t.Errorf("the network %d: from %d to %d: %d", i, end, bad, e)
				}
			}
			if e := n.Send(bad, bad, "x"); e != api.ErrArg {
				t.Errorf("the network %d: from %d to itself: %d", i, bad, e)
			}
		}
		for end := range 16 {
			if e := n.Send(end, end, "x"); e != api.ErrArg {
				t.Errorf("the network %d: from %d to itself: %d", i, end, e)
			}
		}
		has(t, n, before...)
	}
}

// P7.1: what is sent to the other side is lost, also if the network is full.
func TestSendLost(t *testing.T) {
	for i, n := range []*net.Net{net.New(), full(t)} {
		n.Split(0b101)
		before := n.List()
		for _, c := range [][2]int{{0, 1}, {1, 0}, {2, 1}, {15, 2}, {0, 15}} {
			if e := n.Send(c[0], c[1], "x"); e != api.ErrLost {
				t.Errorf("the network %d: %v: %d", i, c, e)
			}
		}
		has(t, n, before...)
		n.Heal()
		has(t, n, before...)
	}
	n := net.New()
	n.Split(0b101)
	ok(t, n.Send(0, 2, "a"))
	ok(t, n.Send(15, 1, "b"))
	has(t, n, api.Packet{From: 0, To: 2, Body: "a"}, api.Packet{From: 15, To: 1, Body: "b"})
}

// P7.1, P7.2: Most packets are the most, whichever of Send and Double adds them; a place is free once one is removed.
func TestFull(t *testing.T) {
	n := full(t)
	before := n.List()
	for _, e := range []api.Errno{n.Send(0, 1, "x"), n.Send(14, 15, ""), n.Double(0), n.Double(net.Most - 1)} {
		if e != api.ErrFull {
			t.Errorf("one more packet: %d", e)
		}
	}
	has(t, n, before...)
	ok(t, n.Drop(3))
	ok(t, n.Double(3))
	want := append(slices.Delete(slices.Clone(before), 3, 4), packet("4"))
	has(t, n, want...)
	if e := n.Double(0); e != api.ErrFull {
		t.Errorf("one more packet: %d", e)
	}
	if p, e := n.Deliver(0); p != packet("0") || e != api.OK {
		t.Errorf("the first packet: %v, %d", p, e)
	}
	ok(t, n.Send(0, 1, "last"))
	has(t, n, append(want[1:], packet("last"))...)
	if e := n.Send(0, 1, "x"); e != api.ErrFull {
		t.Errorf("one more packet: %d", e)
	}
}

// P7.2: a full network has no packet with the index Most, which is said before that it is full.
func TestDoubleOrder(t *testing.T) {
	n := full(t)
	for _, i := range []int{-1, net.Most, net.Most + 1, huge, least} {
		if e := n.Double(i); e != api.ErrNone {
			t.Errorf("a packet with the index %d: %d", i, e)
		}
	}
}

// P7.2: indices of no packet.
func TestNone(t *testing.T) {
	one := sending(t, "a")
	gone := sending(t, "a", "b", "c")
	ok(t, gone.Drop(1))
	if _, e := gone.Deliver(0); e != api.OK {
		t.Error(e)
	}
	split := sending(t, "a")
	split.Split(1)
	for k, n := range []*net.Net{net.New(), one, gone, split} {
		before := n.List()
		for _, i := range []int{least, -1 << 32, -2, -1, len(before), len(before) + 1, 2, 3, 499, 500, 1 << 32, huge} {
			if p, e := n.Deliver(i); p != (api.Packet{}) || e != api.ErrNone {
				t.Errorf("the network %d: Deliver(%d): %v, %d", k, i, p, e)
			}
			if e := n.Drop(i); e != api.ErrNone {
				t.Errorf("the network %d: Drop(%d): %d", k, i, e)
			}
			if e := n.Double(i); e != api.ErrNone {
				t.Errorf("the network %d: Double(%d): %d", k, i, e)
			}
		}
		has(t, n, before...)
	}
}

// P7.2: each packet of a list is delivered, dropped and doubled, and the others stay in order.
func TestIndices(t *testing.T) {
	l := []string{"a", "b", "c", "d", "e"}
	for i, b := range l {
		rest := slices.Delete(slices.Clone(l), i, i+1)
		n := sending(t, l...)
		if p, e := n.Deliver(i); p != packet(b) || e != api.OK {
			t.Errorf("Deliver(%d): %v, %d", i, p, e)
		}
		bodies(t, n, rest...)
		n = sending(t, l...)
		ok(t, n.Drop(i))
		bodies(t, n, rest...)
		n = sending(t, l...)
		ok(t, n.Double(i))
		bodies(t, n, append(slices.Clone(l), b)...)
		ok(t, n.Double(5))
		ok(t, n.Double(i))
		bodies(t, n, append(slices.Clone(l), b, b, b)...)
		ok(t, n.Drop(i))
		bodies(t, n, append(rest, b, b, b)...)
	}
}

// P7.2: of equal packets only the one with the index is removed.
func TestEqualPackets(t *testing.T) {
	n := sending(t, "a", "b", "a", "c", "a")
	ok(t, n.Drop(2))
	bodies(t, n, "a", "b", "c", "a")
	if p, e := n.Deliver(3); p != packet("a") || e != api.OK {
		t.Errorf("Deliver: %v, %d", p, e)
	}
	bodies(t, n, "a", "b", "c")
}

// P7.2: which ends hear each other counts when the packet is delivered; one that is lost is removed.
func TestDeliverLost(t *testing.T) {
	n := net.New()
	ok(t, n.Send(0, 1, "a"))
	ok(t, n.Send(1, 2, "b"))
	ok(t, n.Send(2, 0, "c"))
	ok(t, n.Send(1, 0, "d"))
	n.Split(1)
	if p, e := n.Deliver(0); p != (api.Packet{}) || e != api.ErrLost {
		t.Errorf("a packet between the sides: %v, %d", p, e)
	}
	if p, e := n.Deliver(0); p != (api.Packet{From: 1, To: 2, Body: "b"}) || e != api.OK {
		t.Errorf("a packet on one side: %v, %d", p, e)
	}
	has(t, n, api.Packet{From: 2, To: 0, Body: "c"}, api.Packet{From: 1, To: 0, Body: "d"})
	if p, e := n.Deliver(1); p != (api.Packet{}) || e != api.ErrLost {
		t.Errorf("a packet between the sides: %v, %d", p, e)
	}
	has(t, n, api.Packet{From: 2, To: 0, Body: "c"})
	n.Heal()
	if p, e := n.Deliver(0); p != (api.Packet{From: 2, To: 0, Body: "c"}) || e != api.OK {
		t.Errorf("after Heal: %v, %d", p, e)
	}
	has(t, n)
}

// P7.2: Drop and Double do not ask who hears whom.
func TestApart(t *testing.T) {
	n := sending(t, "a", "b")
	n.Split(1)
	ok(t, n.Double(0))
	ok(t, n.Drop(0))
	bodies(t, n, "b", "a")
	n.Heal()
	if p, e := n.Deliver(1); p != packet("a") || e != api.OK {
		t.Errorf("Deliver: %v, %d", p, e)
	}
}

// P7.3: two ends hear each other if their bits are equal; higher bits do not count.
func TestSplit(t *testing.T) {
	for _, mask := range []int{0, 1, 2, 3, 1 << 15, 1<<15 | 1, 0x5555, 0xaaaa, 0xff00, 0xfffe, 0xffff, 1 << 16, 1<<16 | 4, 1 << 17, 1 << 32, 1<<40 | 0x1234, -1, -2, -1 << 15, -1 << 16, -40000, huge, least} {
		n := net.New()
		n.Split(0x0f0f)
		n.Split(mask)
		for a := range 16 {
			for b := range 16 {
				want := mask&(1<<a) != 0 == (mask&(1<<b) != 0)
				if n.Hear(a, b) != want {
					t.Errorf("the split %#x: %d hears %d: %v", mask, a, b, !want)
				}
				e := n.Send(a, b, "")
				if a != b && (e == api.OK) != want || a == b && e != api.ErrArg {
					t.Errorf("the split %#x: %d sends to %d: %d", mask, a, b, e)
				}
			}
		}
		n.Heal()
		for a := range 16 {
			if !n.Hear(0, a) || !n.Hear(a, 0) {
				t.Errorf("the split %#x is not healed for %d", mask, a)
			}
		}
	}
}

// P7.3: what is no end hears nobody, and nobody hears it.
func TestHearNoEnd(t *testing.T) {
	for _, mask := range []int{0, 0xffff, 1} {
		n := net.New()
		n.Split(mask)
		for _, bad := range []int{-1, -16, -64, 16, 17, 63, 64, 1 << 32, huge, least} {
			for end := range 16 {
				if n.Hear(bad, end) || n.Hear(end, bad) || n.Hear(bad, bad) {
					t.Errorf("the split %#x: %d and %d hear each other", mask, bad, end)
				}
			}
		}
	}
}

// P7.3: Split and Heal leave the packets in flight.
func TestSplitPackets(t *testing.T) {
	n := sending(t, "a", "b", "c")
	for _, f := range []func(){func() { n.Split(1) }, func() { n.Split(1) }, n.Heal, n.Heal, func() { n.Split(-1) }} {
		f()
		bodies(t, n, "a", "b", "c")
	}
}

// P7.4: a copy has the packets and the split, and neither of the two changes the other.
func TestCopy(t *testing.T) {
	changes := []func(n *net.Net){
		func(n *net.Net) { n.Send(0, 2, "x") },
		func(n *net.Net) { n.Deliver(0) },
		func(n *net.Net) { n.Deliver(1) },
		func(n *net.Net) { n.Drop(0) },
		func(n *net.Net) { n.Double(1) },
		func(n *net.Net) { n.Split(6) },
		func(n *net.Net) { n.Heal() },
	}
	for i, change := range changes {
		for size := range 9 {
			n := net.New()
			for k := range size {
				ok(t, n.Send(0, 2, strconv.Itoa(k)))
			}
			n.Split(5)
			before := n.List()
			for _, two := range [][2]*net.Net{{n.Copy(), n}, {n, n.Copy()}} { // what is changed, and what is not
				change(two[0])
				has(t, two[1], before...)
				if !two[1].Hear(0, 2) || two[1].Hear(0, 1) || two[1].Hear(2, 3) {
					t.Errorf("the change %d: the other network is split anew", i)
				}
			}
		}
	}
}

// P7.4: a copy does as the network would have done, and what is added to one of them is not added to the other.
func TestCopyGoesOn(t *testing.T) {
	n := sending(t, "a", "b", "c")
	ok(t, n.Drop(1)) // leaves room behind the list
	c := n.Copy()
	ok(t, n.Send(0, 1, "n"))
	ok(t, c.Send(0, 1, "c"))
	bodies(t, n, "a", "c", "n")
	bodies(t, c, "a", "c", "c")
	f := full(t).Copy()
	if e := f.Send(0, 1, "x"); e != api.ErrFull {
		t.Errorf("a copy of a full network: %d", e)
	}
}

// P7.4: the result of List is independent.
func TestListFresh(t *testing.T) {
	n := sending(t, "a", "b", "c")
	l, again := n.List(), n.List()
	l[0].Body, l[2] = "x", api.Packet{}
	l = append(l[:1], packet("y"))
	bodies(t, n, "a", "b", "c")
	if !slices.Equal(again, []api.Packet{packet("a"), packet("b"), packet("c")}) {
		t.Errorf("another list has become %v", again)
	}
	ok(t, n.Drop(0))
	ok(t, n.Send(0, 1, "d"))
	if !slices.Equal(again, []api.Packet{packet("a"), packet("b"), packet("c")}) || l[0].Body != "x" {
		t.Errorf("an earlier list has become %v", again)
	}
}

// The chapter's examples (P7.1 to P7.3).
func TestExamples(t *testing.T) {
	n := net.New()
	ok(t, n.Send(0, 1, "a"))
	ok(t, n.Send(0, 2, "b"))
	if p, e := n.Deliver(1); p != (api.Packet{From: 0, To: 2, Body: "b"}) || e != api.OK {
		t.Errorf("first %v, %d", p, e)
	}
	if p, e := n.Deliver(0); p != packet("a") || e != api.OK {
		t.Errorf("then %v, %d", p, e)
	}
	n = sending(t, "a")
	n.Split(1)
	if p, e := n.Deliver(0); p != (api.Packet{}) || e != api.ErrLost || n.Count() != 0 {
		t.Errorf("%v, %d, and %d packets", p, e, n.Count())
	}
	n = net.New()
	n.Split(3)
	ok(t, n.Send(0, 1, "a"))
	if e := n.Send(1, 2, "b"); e != api.ErrLost {
		t.Errorf("between the sides: %d", e)
	}
}
