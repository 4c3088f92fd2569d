package disk_test

import (
	"slices"
	"testing"

	"parterre/api"
	"parterre/disk"
)

// sectors of the model, and of the disks that are held against it.
const sectors = api.MinSectors

// model is a disk told in the chapter's words: what is there, what lasts, and which sectors wait, each a row of its own. A block is told by its first byte.
type model struct {
	is, lasts [sectors]byte
	waits     [sectors]bool
	fuse      int
	down      bool
	steps     int
}

// may: is there power for a step? Then it is counted.
func (m *model) may() api.Errno {
	if m.down {
		return api.ErrPower
	}
	if m.fuse == 0 {
		m.down = true
		return api.ErrPower
	}
	if m.fuse > 0 {
		m.fuse--
	}
	m.steps++
	return api.OK
}

func (m *model) write(at int, n byte) api.Errno {
	if m.down {
		return api.ErrPower
	}
	if at < 0 || at >= sectors {
		return api.ErrArg
	}
	e := m.may()
	if e == api.OK {
		m.is[at] = n
		m.waits[at] = true
	}
	return e
}

func (m *model) barrier() api.Errno {
	e := m.may()
	if e == api.OK {
		m.lasts = m.is
		m.waits = [sectors]bool{}
	}
	return e
}

func (m *model) crash(kept []bool) {
	for at := range sectors {
		if !m.waits[at] {
			continue
		}
		if len(kept) == 0 || !kept[0] {
			m.is[at] = m.lasts[at]
		}
		if len(kept) > 0 {
			kept = kept[1:]
		}
	}
	m.lasts = m.is
	m.waits = [sectors]bool{}
	m.down = false
	m.fuse = -1
}

// compare: does the disk tell what the model does?
func (m *model) compare(d *disk.Disk) bool {
	var waits []int
	for at := range sectors {
		b, e := d.Read(at)
		if m.down && (e != api.ErrPower || b != api.Block{}) {
			return false
		}
		if !m.down && (e != api.OK || b != api.Block{m.is[at]}) {
			return false
		}
		if d.Lasts(at) != (api.Block{m.lasts[at]}) {
			return false
		}
		if m.waits[at] {
			waits = append(waits, at)
		}
	}
	return slices.Equal(waits, d.Waits()) && d.Down() == m.down && d.Steps() == m.steps && d.Sectors() == sectors
}

// act does one thing of thirteen to both, and tells whether they answer the same; turn makes the blocks differ.
func (m *model) act(d *disk.Disk, kind, turn int) bool {
	n := byte(turn + 1)
	write := func(at int) bool { return d.Write(at, api.Block{n}) == m.write(at, n) }
	crash := func(kept ...bool) bool {
		d.Crash(kept...)
		m.crash(kept)
		return true
	}
	fuse := func(n int) bool {
		d.Fuse(n)
		m.fuse = n
		return true
	}
	switch kind {
	case 0:
		return write(0)
	case 1:
		return write(sectors - 1)
	case 2:
		return write(31)
	case 3:
		return write(sectors)
	case 4:
		return write(-1)
	case 5:
		return d.Barrier() == m.barrier()
	case 6:
		return fuse(0)
	case 7:
		return fuse(1)
	case 8:
		return fuse(-7)
	case 9:
		return crash()
	case 10:
		return crash(true)
	case 11:
		return crash(false, true, false, true)
	}
	return crash(true, false, true)
}

const kinds = 13

// P2.1 to P2.4: every row of four things that can be done to a disk.
func TestModelRows(t *testing.T) {
	for row := range kinds * kinds * kinds * kinds {
		d, m := newDisk(t, sectors), model{fuse: -1}
		for turn, rest := 0, row; turn < 4; turn++ {
			kind := rest % kinds
			rest /= kinds
			if !m.act(d, kind, turn) {
				t.Fatalf("row %d: thing %d (kind %d) answers something else", row, turn, kind)
			}
		}
		if !m.compare(d) {
			t.Fatalf("row %d: something else is there", row)
		}
	}
}

// P2.1 to P2.4: a long row, looked at behind each thing.
func TestModelLong(t *testing.T) {
	d, m := newDisk(t, sectors), model{fuse: -1}
	seed := uint32(1)
	for turn := range 20000 {
		seed = seed*1664525 + 1013904223
		kind := int(seed>>16) % kinds
		if !m.act(d, kind, turn) || !m.compare(d) {
			t.Fatalf("thing %d (kind %d): something else is there", turn, kind)
		}
	}
}

// P2.4: whatever is kept, each sector is what lasted there, or what was written there last.
func TestCrashEither(t *testing.T) {
	const waiting = 6
	for mask := range 1 << waiting {
		d := newDisk(t, sectors)
		kept := make([]bool, waiting)
		for i := range waiting {
			write(t, d, 10*i, byte(i+1))
			kept[i] = mask>>i&1 == 1
		}
		d.Barrier()
		for i := range waiting {
			write(t, d, 10*i, 100)
			write(t, d, 10*i, byte(i+101))
		}
		d.Fuse(0)
		want(t, "write", d.Write(5, full(9)), api.ErrPower)
		d.Crash(kept...)
		for i := range waiting {
			n := byte(i + 1)
			if kept[i] {
				n += 100
			}
			wantSector(t, d, 10*i, n, n)
		}
		wantSector(t, d, 5, 0, 0)
		wantSector(t, d, 7, 0, 0)
	}
}
