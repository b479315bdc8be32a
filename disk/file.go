package disk

import (
	"bytes"
	"maps"
)

const sectorSize = 64

// file is a file with its durable part. They differ in the pending sectors
// only, but for bytes 0 of the file after the end of the durable part; and if
// the file is longer, its last sector is one of them.
type file struct {
	now, durable []byte
	pending      map[int]bool // the numbers of the pending sectors
}

// newFile returns an empty file.
func newFile() *file { return &file{pending: map[int]bool{}} }

// clone returns an independent copy of the file.
func (c *file) clone() *file {
	return &file{bytes.Clone(c.now), bytes.Clone(c.durable), maps.Clone(c.pending)}
}

// read returns those of the bytes from an offset on that exist.
func (c *file) read(at, size int) string {
	at = min(at, len(c.now))
	size = min(size, len(c.now)-at)
	return string(c.now[at : at+size])
}

// write puts bytes into the file, and returns the numbers of the sectors that
// are pending since then.
func (c *file) write(at int, s []byte) []int {
	if len(s) == 0 {
		return nil
	}
	c.now = put(c.now, at, s)
	var added []int
	end := at + len(s)
	for n := at / sectorSize; n*sectorSize < end; n++ {
		if !c.pending[n] {
			c.pending[n] = true
			added = append(added, n)
		}
	}
	return added
}

// save makes one sector durable.
func (c *file) save(n int) {
	at := n * sectorSize
	end := min(at+sectorSize, len(c.now))
	c.durable = put(c.durable, at, c.now[at:end])
}

// settle makes the file durable, at a cost that does not grow with what was
// durable before.
func (c *file) settle() {
	for n := range c.pending {
		c.save(n)
	}
	c.pending = map[int]bool{}
}

// cut cuts off the end of a file of which nothing is pending.
func (c *file) cut(size int) { c.now, c.durable = c.now[:size], c.durable[:size] }

// revert makes the file its durable part.
func (c *file) revert() {
	c.now = append(c.now[:0], c.durable...)
	c.pending = map[int]bool{}
}

// put puts one or more bytes into a string at an offset.
func put(b []byte, at int, s []byte) []byte {
	b = append(b, make([]byte, max(at-len(b), 0))...)
	n := copy(b[at:], s)
	return append(b, s[n:]...)
}
