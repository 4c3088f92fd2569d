package files_test

import (
	"testing"

	"parterre/api"
	"parterre/disk"
	"parterre/files"
)

// crash lets the power come again; of what waits there is what the mask's bits say, the lowest first, and again from the lowest on.
func crash(d *disk.Disk, mask uint64) {
	kept := make([]bool, len(d.Waits()))
	for i := range kept {
		kept[i] = mask>>(i%64)&1 == 1
	}
	d.Crash(kept...)
}

// cut is a disk on which the power went in a batch, and the files ahead of it, and behind.
type cut struct {
	d             *disk.Disk
	before, after model
	answered      bool
}

// cutDo lets the fuse cut the power in a batch; what the mask says is kept.
func cutDo(t *testing.T, l []files.Act, fuse int, mask uint64) cut {
	t.Helper()
	f, d, m := begun(t, 160, files.Put("a", text(1, 1000)), files.Put("b", text(2, 513)), files.Put("c", ""), files.Put("d", "dd"))
	c := cut{d: d, before: m, after: m.mustAfter(l)}
	d.Fuse(fuse)
	c.answered = f.Do(l...) == api.OK
	crash(d, mask)
	return c
}

// wantWhole: opened again there are the files ahead of the batch (unless it was answered), or behind it; and they go on.
func (c cut) wantWhole(t *testing.T) {
	t.Helper()
	f := open(t, c.d)
	m := c.before
	if s, _ := f.Read("a"); c.answered || s == c.after.files["a"].data {
		m = c.after
	}
	wantModel(t, f, c.d, m)
	want(t, "waits", len(c.d.Waits()), 0)
	wantBatch(t, f, c.d, m, files.Put("new", text(9, 700)), files.Put("d", "on"), files.Delete("a"))
}

// batches are some that change a in each, and two to six sectors; in all of them sectors go from one file to another.
func batches() [][]files.Act {
	return [][]files.Act{
		{files.Put("a", "")},
		{files.Delete("b"), files.Put("a", text(3, 1600))},
		{files.Delete("a"), files.Rename("b", "a"), files.Put("b", text(4, 900))},
		{files.Put("a", text(2, 513)), files.Put("b", text(1, 1000))},
		{files.Delete("a"), files.Put("c", text(5, 1000)), files.Rename("d", "a"), files.Put("e", text(6, 513))},
	}
}

// P6.4: wherever the power goes in a batch, whatever is kept.
func TestPowerDo(t *testing.T) {
	for _, l := range batches() {
		steps := 0
		for fuse := 0; fuse < 100 && steps == 0; fuse++ {
			for _, mask := range []uint64{0, 1, 2, 4, 8, 16, 32, 21, 42, 56, 63} {
				c := cutDo(t, l, fuse, mask)
				if c.answered {
					steps = fuse
				}
				c.wantWhole(t)
			}
		}
		want(t, "steps were cut", steps >= 8, true)
	}
}

// P6.4: and it goes again as they are opened, and again.
func TestPowerOpen(t *testing.T) {
	for _, l := range batches()[1:] {
		for fuse := range 2*6 + 6 {
			for turn := range uint64(3 * 7 * 2) {
				c := cutDo(t, l, fuse, turn%3*21)
				for again := range 3 {
					c.d.Fuse(int(turn / 3 % 7))
					f, e := files.Open(c.d)
					if e == api.OK {
						break
					}
					want(t, "open", e == api.ErrPower && f == nil, true)
					crash(c.d, 21<<(turn/21)>>again)
				}
				c.d.Fuse(-1)
				c.wantWhole(t)
			}
		}
	}
}

// P6.4: a batch of the most sectors.
func TestPowerMost(t *testing.T) {
	l := []files.Act{files.Put("a", text(3, 32768)), files.Put("b", text(4, 31*512))}
	for fuse := range 2*96 + 7 {
		for _, mask := range []uint64{0, 1<<64 - 1, 0x5555555555555555, 0x9e3779b97f4a7c15} {
			f, d, m := begun(t, 250, files.Put("a", text(1, 1000)), files.Put("b", text(2, 513)))
			c := cut{d: d, before: m, after: m.mustAfter(l)}
			d.Fuse(fuse)
			c.answered = f.Do(l...) == api.OK
			want(t, "answered", c.answered, fuse >= 2*96+6)
			crash(d, mask)
			c.wantWhole(t)
		}
	}
}

// P6.4: a long row of batches and crashes on one disk; what was answered stays.
func TestPowerLong(t *testing.T) {
	c := chance(1)
	d := newDisk(t, 180)
	f, m := open(t, d), model{sectors: 180}
	undone, done := 0, 0
	for range 1500 {
		var l []files.Act
		for range 1 + c.below(4) {
			l = append(l, c.act(3000))
		}
		after, wanted := m.after(l)
		d.Fuse(c.below(40))
		e := f.Do(l...)
		if e != api.ErrPower {
			want(t, "do", e, wanted)
			m = after
			continue
		}
		for again := 0; e != api.OK && again < 100; again++ {
			crash(d, uint64(c.below(1<<31)))
			d.Fuse(c.below(9) + again)
			f, e = files.Open(d)
		}
		if e != api.OK {
			t.Fatalf("open: %v", e)
		}
		d.Fuse(-1)
		if m.changed(d) > 0 {
			m, done = after, done+1
		} else {
			undone++
		}
		wantModel(t, f, d, m)
	}
	want(t, "both came up", undone > 50 && done > 50, true)
}
