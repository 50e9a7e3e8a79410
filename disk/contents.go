package disk

import "maps"

const (
	fileCount  = 16
	sectorSize = 64
	maxSize    = 1 << 24
)

// sector is a sector of a file.
type sector struct{ file, number int }

// block is the bytes of a sector. Those behind the end of the file are 0, so that they are what they have to be when the file gets longer.
type block [sectorSize]byte

// contents is what all files consist of. A block that is not in the map consists of bytes 0, so what lies before a write far behind the end of a file takes no memory.
type contents struct {
	blocks map[sector]block
	sizes  [fileCount]int
}

// empty returns the contents of empty files.
func empty() contents {
	return contents{blocks: map[sector]block{}}
}

// clone returns an independent copy.
func (c *contents) clone() contents {
	return contents{maps.Clone(c.blocks), c.sizes}
}

// read returns those of size bytes of a file from at on that exist.
func (c *contents) read(f, at, size int) string {
	left := max(c.sizes[f]-at, 0)
	out := make([]byte, min(size, left))
	for i := 0; i < len(out); {
		b := c.blocks[sector{f, (at + i) / sectorSize}]
		i += copy(out[i:], b[(at+i)%sectorSize:])
	}
	return string(out)
}

// put puts into a sector, at one of its bytes, as many bytes of s as fit, and returns how many these are. There is at least one byte in s.
func (c *contents) put(p sector, at int, s string) int {
	b := c.blocks[p]
	n := copy(b[at:], s)
	c.blocks[p] = b
	c.sizes[p.file] = max(c.sizes[p.file], p.number*sectorSize+at+n)
	return n
}

// cut leaves only the first size bytes of a file.
func (c *contents) cut(f, size int) {
	last := sector{f, size / sectorSize}
	maps.DeleteFunc(c.blocks, func(p sector, _ block) bool {
		return p.file == f && p.number > last.number
	})
	var b block
	old := c.blocks[last]
	copy(b[:size%sectorSize], old[:])
	c.blocks[last] = b
	c.sizes[f] = size
}
