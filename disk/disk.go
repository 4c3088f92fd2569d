// Package disk is layer 2: a stand-in for a disk whose power may go at any sector.
package disk

import "parterre/api"

// Disk is sectors behind a cache, and a meter of what is done to them.
type Disk struct {
	meter
	cache
}

// New is a disk of so many sectors, all 0.
func New(sectors int) (*Disk, api.Errno) {
	if sectors < api.MinSectors || sectors > api.MaxSectors {
		return nil, api.ErrArg
	}
	return &Disk{meter: newMeter(), cache: newCache(sectors)}, api.OK
}

// Sectors is how many there are.
func (d *Disk) Sectors() int {
	if d == nil {
		return 0
	}
	return len(d.lasting)
}

// Read is what was written to the sector last.
func (d *Disk) Read(at int) (api.Block, api.Errno) {
	if e := d.reach(at); e != api.OK {
		return api.Block{}, e
	}
	return d.now(at), api.OK
}

// Write lets the block stand in the sector, and wait there.
func (d *Disk) Write(at int, b api.Block) api.Errno {
	if e := d.reach(at); e != api.OK {
		return e
	}
	if e := d.step(); e != api.OK {
		return e
	}
	d.waiting[at] = b
	return api.OK
}

// reach is the error with which a sector can't be read or written. The fuse isn't asked: a write to no sector is no step.
func (d *Disk) reach(at int) api.Errno {
	switch {
	case d == nil:
		return api.ErrNil
	case d.down:
		return api.ErrPower
	case !d.has(at):
		return api.ErrArg
	}
	return api.OK
}

// Barrier lets all that waits last.
func (d *Disk) Barrier() api.Errno {
	if d == nil {
		return api.ErrNil
	}
	if e := d.step(); e != api.OK {
		return e
	}
	d.settle(d.waits())
	return api.OK
}

// Fuse sets how many steps may be done yet; below 0: any number.
func (d *Disk) Fuse(n int) {
	if d != nil {
		d.fuse = n
	}
}

// Down tells whether the power is gone.
func (d *Disk) Down() bool {
	return d != nil && d.down
}

// Steps is how many were done.
func (d *Disk) Steps() int {
	if d == nil {
		return 0
	}
	return d.steps
}

// Waits is the sectors that wait, rising.
func (d *Disk) Waits() []int {
	if d == nil {
		return nil
	}
	return d.waits()
}

// Crash loses what waits, but for those sectors, rising, of which kept says true; the power is there again.
func (d *Disk) Crash(kept ...bool) {
	if d == nil {
		return
	}
	var stay []int
	for i, at := range d.waits() {
		if i < len(kept) && kept[i] {
			stay = append(stay, at)
		}
	}
	d.settle(stay)
	d.restore()
}

// Lasts is what lasts in the sector; all 0, of none.
func (d *Disk) Lasts(at int) api.Block {
	if d == nil || !d.has(at) {
		return api.Block{}
	}
	return d.lasting[at]
}
