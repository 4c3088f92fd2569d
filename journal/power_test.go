package journal_test

import (
	"testing"

	"parterre/api"
	"parterre/disk"
	"parterre/journal"
)

// behind is all sectors behind the journal, as they last, each told by its first bytes.
func behind(d *disk.Disk) string {
	var l []byte
	for at := api.Journal; at < d.Sectors(); at++ {
		b := d.Lasts(at)
		l = append(l, b[0], b[1], b[511])
	}
	return string(l)
}

// with is what stands behind the journal, if these writes are done too.
func with(before string, l []journal.Write) string {
	after := []byte(before)
	for _, w := range l {
		at := 3 * (w.At - api.Journal)
		after[at], after[at+1], after[at+2] = w.Block[0], w.Block[1], w.Block[511]
	}
	return string(after)
}

// crash lets the power come again; of what waits there is what the mask's bits say, the lowest first, and again from the lowest on.
func crash(d *disk.Disk, mask uint64) {
	kept := make([]bool, len(d.Waits()))
	for i := range kept {
		kept[i] = mask>>(i%64)&1 == 1
	}
	d.Crash(kept...)
}

// cut is a disk on which the power went in a commit, what was there ahead of it, and what it wrote.
type cut struct {
	d             *disk.Disk
	before, after string
	answered      bool
}

// cutCommit commits something, and then l, in which the fuse cuts the power; what the mask says is kept.
func cutCommit(t *testing.T, l []journal.Write, fuse int, mask uint64) cut {
	t.Helper()
	d := newDisk(t, 200)
	j := open(t, d)
	j.Commit(write(100, 200), write(101, 201), write(150, 202), write(199, 203))
	c := cut{d: d, before: behind(d)}
	c.after = with(c.before, l)
	d.Fuse(fuse)
	c.answered = j.Commit(l...) == api.OK
	crash(d, mask)
	return c
}

// wantWhole: opened again there is what was ahead of the commit (unless it was answered), or what it wrote; and the journal goes on.
func (c cut) wantWhole(t *testing.T) {
	t.Helper()
	j := open(t, c.d)
	got := behind(c.d)
	if got != c.after && (c.answered || got != c.before) {
		t.Error("opened again there is neither what was, nor what was written")
	}
	want(t, "waits", len(c.d.Waits()), 0)
	want(t, "commit behind it", j.Commit(write(198, 77), write(101, 78)), api.OK)
	want(t, "what it wrote", behind(c.d), with(got, []journal.Write{write(198, 77), write(101, 78)}))
}

// some are commits of one to three sectors, of those that were written ahead too.
func some() [][]journal.Write {
	return [][]journal.Write{
		{write(150, 1)},
		{write(100, 1), write(199, 2)},
		{write(199, 1), write(101, 2), write(120, 3)},
	}
}

// P4.4: wherever the power goes in a commit, whatever is kept.
func TestPowerCommit(t *testing.T) {
	for _, l := range some() {
		for fuse := range len(steps(2, l)) + 1 {
			for mask := range uint64(8) {
				c := cutCommit(t, l, fuse, mask)
				want(t, "answered", c.answered, fuse == len(steps(2, l)))
				c.wantWhole(t)
			}
		}
	}
}

// P4.4: and it goes again as it is opened, and again.
func TestPowerOpen(t *testing.T) {
	for _, l := range some() {
		for fuse := range len(steps(2, l)) + 1 {
			for turn := range uint64(8 * 5 * 8) {
				c := cutCommit(t, l, fuse, turn%8)
				for range 3 {
					c.d.Fuse(int(turn / 8 % 5))
					if _, e := journal.Open(c.d); e == api.OK {
						break
					}
					crash(c.d, turn/40)
				}
				c.d.Fuse(-1)
				c.wantWhole(t)
			}
		}
	}
}

// P4.4: a commit of the most sectors.
func TestPowerMost(t *testing.T) {
	l := writes(104, 96)
	for fuse := range len(steps(2, l)) + 1 {
		for _, mask := range []uint64{0, 1<<64 - 1, 0x5555555555555555, 0x9e3779b97f4a7c15} {
			c := cutCommit(t, l, fuse, mask)
			c.d.Fuse(fuse % 97)
			if _, e := journal.Open(c.d); e != api.OK {
				crash(c.d, mask>>1|mask<<63)
			}
			c.d.Fuse(-1)
			c.wantWhole(t)
		}
	}
}

// P4.4: a long row of commits and crashes on one disk; a commit that was answered stays.
func TestPowerLong(t *testing.T) {
	d := newDisk(t, 200)
	j := open(t, d)
	is, seed := behind(d), uint64(1)
	chance := func(n uint64) uint64 {
		seed = seed*6364136223846793005 + 1442695040888963407
		return seed >> 33 % n
	}
	undone, done := 0, 0
	for range 2000 {
		var l []journal.Write
		for range chance(7) {
			l = append(l, write(97+int(chance(103)), byte(chance(256))))
		}
		d.Fuse(int(chance(30)))
		e := j.Commit(l...)
		after := with(is, l)
		for try := 0; e != api.OK; try++ {
			crash(d, chance(1<<31))
			d.Fuse(int(chance(9)) + try)
			j, e = journal.Open(d)
			if e != api.OK {
				continue
			}
			if got := behind(d); got == is && got != after {
				after, undone = is, undone+1
			} else {
				done++
			}
		}
		d.Fuse(-1)
		is = after
		want(t, "behind the journal", behind(d), is)
	}
	want(t, "both came up", undone > 100 && done > 100, true)
}
