package journal_test

import (
	"math"
	"slices"
	"testing"

	"parterre/api"
	"parterre/disk"
	"parterre/journal"
)

func newDisk(t *testing.T, sectors int) *disk.Disk {
	t.Helper()
	d, e := disk.New(sectors)
	if e != api.OK {
		t.Fatalf("a disk of %d sectors: %v", sectors, e)
	}
	return d
}

func open(t *testing.T, d *disk.Disk) *journal.Journal {
	t.Helper()
	j, e := journal.Open(d)
	if e != api.OK || j == nil {
		t.Fatalf("open: %v", e)
	}
	return j
}

// wantNoJournal: Open has that error, and answers no journal.
func wantNoJournal(t *testing.T, d *disk.Disk, wanted api.Errno) {
	t.Helper()
	j, e := journal.Open(d)
	want(t, "open", e, wanted)
	want(t, "journal", j, nil)
}

// lay writes a head and its blocks into a disk's journal, and lets them last.
func lay(d *disk.Disk, head api.Block, blocks ...api.Block) {
	d.Write(0, head)
	for i, b := range blocks {
		d.Write(i+1, b)
	}
	d.Barrier()
}

func wantSector(t *testing.T, d *disk.Disk, at int, wanted api.Block) {
	t.Helper()
	b, e := d.Read(at)
	want(t, "read", e, api.OK)
	if b != wanted || d.Lasts(at) != wanted {
		t.Errorf("sector %d: another block is there, or lasts", at)
	}
}

// P4.2: without a head the number is 0, and nothing is done.
func TestOpenNew(t *testing.T) {
	for _, n := range []int{64, 65, 95, 96, 97, 98, 200, 4096} {
		d := newDisk(t, n)
		j := open(t, d)
		want(t, "number", j.Number(), 0)
		want(t, "error", j.Err(), api.OK)
		want(t, "sectors", j.Sectors(), n)
		want(t, "steps", d.Steps(), 0)
	}
}

// P4.2: what has a head is done again, to sectors that there are, and lasts.
func TestOpenHead(t *testing.T) {
	l := []journal.Write{write(97, 1), write(150, 2), write(199, 3), write(200, 4), write(4095, 5), write(65535, 6)}
	for _, number := range numbers() {
		d := newDisk(t, 200)
		lay(d, journal.Head(number, l...), blocksOf(l)...)
		steps := d.Steps()
		want(t, "number", open(t, d).Number(), number)
		want(t, "steps", d.Steps()-steps, 4)
		want(t, "waits", len(d.Waits()), 0)
		for _, w := range l[:3] {
			wantSector(t, d, w.At, w.Block)
		}
		wantSector(t, d, 98, api.Block{})
		wantSector(t, d, 198, api.Block{})
	}
}

// P4.2: a head of no blocks, and one of the most, whose sectors all are there.
func TestOpenEdges(t *testing.T) {
	d := newDisk(t, 97)
	lay(d, journal.Head(9))
	steps := d.Steps()
	want(t, "number", open(t, d).Number(), 9)
	want(t, "a barrier", d.Steps()-steps, 1)
	d = newDisk(t, 300)
	l := writes(204, 96)
	lay(d, journal.Head(10, l...), blocksOf(l)...)
	want(t, "number", open(t, d).Number(), 10)
	for _, w := range l {
		wantSector(t, d, w.At, w.Block)
	}
	wantSector(t, d, 203, api.Block{})
}

// P4.2: heads that are no head over what stands behind them: the number is 0, and nothing is done.
func TestOpenNoHead(t *testing.T) {
	l := writes(100, 3)
	behind := journal.Head(5, l...)
	behind[511] = 1
	for _, head := range []api.Block{{}, block(1), behind, headOf("PRTQ", 5, l), headOf("PRTR", 5, writes(100, 97)), journal.Head(5, writes(100, 4)...), journal.Head(5, writes(100, 2)[1])} {
		d := newDisk(t, 200)
		lay(d, head, blocksOf(l)...)
		steps := d.Steps()
		want(t, "number", open(t, d).Number(), 0)
		want(t, "steps", d.Steps(), steps)
		for at := 97; at < 200; at++ {
			wantSector(t, d, at, api.Block{})
		}
	}
}

// P4.2: on a disk of fewer sectors than the journal's a head is one over those that there are behind it, up to all of them; what it has for sectors that there aren't isn't done.
func TestOpenSmall(t *testing.T) {
	for _, n := range []int{64, 65, 95, 96} {
		for _, l := range [][]journal.Write{nil, writes(97, 1), writes(97, n-1)} {
			d := newDisk(t, n)
			lay(d, journal.Head(9, l...), blocksOf(l)...)
			steps := d.Steps()
			want(t, "number", open(t, d).Number(), 9)
			want(t, "a barrier", d.Steps()-steps, 1)
			want(t, "opened again", open(t, d).Number(), 9)
		}
		there := []journal.Write{write(n-1, 1), write(n, 2)}
		d := newDisk(t, n)
		lay(d, journal.Head(9, there...), blocksOf(there)...)
		steps := d.Steps()
		want(t, "number", open(t, d).Number(), 9)
		want(t, "a write and a barrier", d.Steps()-steps, 2)
		wantSector(t, d, n-1, block(1))
		d = newDisk(t, n)
		beyond := writes(97, n)
		lay(d, journal.Head(9, beyond...), blocksOf(beyond[:n-1])...)
		steps = d.Steps()
		want(t, "number of a head over one sector more than there are", open(t, d).Number(), 0)
		want(t, "steps", d.Steps(), steps)
	}
}

// P4.3: on a disk without a sector behind the journal nothing can be committed, and all can be read.
func TestCommitSmall(t *testing.T) {
	for _, n := range []int{64, 65, 96, 97} {
		d := newDisk(t, n)
		j := open(t, d)
		for _, at := range []int{-1, 0, 5, n - 1, n, 96, 97, 98} {
			want(t, "commit", j.Commit(write(at, 1)), api.ErrArg)
		}
		want(t, "commit of too many", j.Commit(writes(97, 97)...), api.ErrArg)
		want(t, "commit of nothing", j.Commit(), api.OK)
		want(t, "steps", d.Steps(), 0)
		want(t, "number", j.Number(), 0)
		d.Write(5, block(5))
		for at := -1; at <= 97; at++ {
			b, e := j.Read(at)
			wanted, we := d.Read(at)
			want(t, "block", b, wanted)
			want(t, "read", e, we)
		}
		want(t, "lost by", j.Err(), api.OK)
	}
}

// P4.2: the disk's first error: none there, no power, the power going as it is done again.
func TestOpenErrors(t *testing.T) {
	wantNoJournal(t, nil, api.ErrNil)
	for _, n := range []int{64, 96, 97, 200} {
		d := newDisk(t, n)
		d.Fuse(0)
		d.Barrier()
		wantNoJournal(t, d, api.ErrPower)
		d.Crash()
		want(t, "number", open(t, d).Number(), 0)
	}
	small := newDisk(t, 64)
	lay(small, journal.Head(5))
	small.Fuse(0)
	wantNoJournal(t, small, api.ErrPower)
	d := newDisk(t, 200)
	l := writes(100, 3)
	lay(d, journal.Head(5, l...), blocksOf(l)...)
	for fuse := range 4 {
		d.Fuse(fuse)
		wantNoJournal(t, d, api.ErrPower)
		wantNoJournal(t, d, api.ErrPower)
		d.Crash()
	}
	d.Fuse(4)
	want(t, "number", open(t, d).Number(), 5)
	want(t, "power", d.Write(1, block(1)), api.ErrPower)
	wantNoJournal(t, d, api.ErrPower)
}

// step is one of the disk's: a sector that is written, or -1 for a barrier.
type step struct {
	at    int
	block api.Block
}

// steps are those of a transaction of these writes, of rising sectors, in the chapter's order.
func steps(number uint64, l []journal.Write) []step {
	barrier := step{at: -1}
	all := []step{{}, barrier}
	for i, w := range l {
		all = append(all, step{i + 1, w.Block})
	}
	all = append(all, barrier, step{0, headOf("PRTR", number, l)}, barrier)
	for _, w := range l {
		all = append(all, step{w.At, w.Block})
	}
	return append(all, barrier)
}

// wantSteps: on a disk of one commit, what a commit of these writes does till the fuse cuts it off is just the first of its steps.
func wantSteps(t *testing.T, l, rising []journal.Write) {
	t.Helper()
	all := steps(2, rising)
	for fuse := range len(all) + 1 {
		d := newDisk(t, 300)
		j := open(t, d)
		j.Commit(write(120, 100), write(110, 101))
		is := map[int]api.Block{}
		for at := range 300 {
			is[at] = d.Lasts(at)
		}
		var waits []int
		for _, s := range all[:fuse] {
			waits = append(waits, s.at)
			if s.at < 0 {
				waits = nil
			} else {
				is[s.at] = s.block
			}
		}
		slices.Sort(waits)
		before := d.Steps()
		d.Fuse(fuse)
		e := j.Commit(l...)
		want(t, "commit", e == api.OK, fuse == len(all))
		want(t, "steps", d.Steps()-before, fuse)
		want(t, "waits", slices.Equal(d.Waits(), waits), true)
		d.Crash(slices.Repeat([]bool{true}, len(waits))...)
		for at := range 300 {
			want(t, "sector", d.Lasts(at) == is[at], true)
		}
	}
}

// P4.3: a commit's steps, in the chapter's order, of which none is done behind the first error of the disk.
func TestCommitSteps(t *testing.T) {
	wantSteps(t, []journal.Write{write(97, 1)}, []journal.Write{write(97, 1)})
	wantSteps(t, []journal.Write{write(200, 1), write(110, 2), write(299, 3)}, []journal.Write{write(110, 2), write(200, 1), write(299, 3)})
	wantSteps(t, []journal.Write{write(110, 1), write(98, 2), write(110, 3)}, []journal.Write{write(98, 2), write(110, 3)})
	l := writes(204, 96)
	slices.Reverse(l)
	wantSteps(t, l, writes(204, 96))
}

// P4.3: of two writes of one sector the last counts; the number is one more.
func TestCommit(t *testing.T) {
	d := newDisk(t, 200)
	j := open(t, d)
	want(t, "commit", j.Commit(write(199, 1), write(97, 2), write(199, 3), write(100, 4), write(199, 5)), api.OK)
	want(t, "number", j.Number(), 1)
	wantSector(t, d, 97, block(2))
	wantSector(t, d, 100, block(4))
	wantSector(t, d, 199, block(5))
	want(t, "commit", j.Commit(write(97, 6)), api.OK)
	want(t, "number", j.Number(), 2)
	wantSector(t, d, 97, block(6))
	wantSector(t, d, 100, block(4))
	want(t, "error", j.Err(), api.OK)
	want(t, "waits", len(d.Waits()), 0)
	b, e := j.Read(97)
	want(t, "read", b == block(6) && e == api.OK, true)
	again := open(t, d)
	want(t, "number opened again", again.Number(), 2)
	want(t, "commit", again.Commit(write(97, 7)), api.OK)
	want(t, "number", again.Number(), 3)
}

// P4.3: what a commit refuses, and that nothing is done then; nothing is done of no writes, either.
func TestCommitRefused(t *testing.T) {
	outside := append(writes(98, 97), write(96, 1))
	twice := append(writes(97, 97), write(300, 1))
	for _, c := range []struct {
		l      []journal.Write
		wanted api.Errno
	}{
		{nil, api.OK},
		{[]journal.Write{}, api.OK},
		{[]journal.Write{write(96, 1)}, api.ErrArg},
		{[]journal.Write{write(0, 1)}, api.ErrArg},
		{[]journal.Write{write(-1, 1)}, api.ErrArg},
		{[]journal.Write{write(300, 1)}, api.ErrArg},
		{[]journal.Write{write(65536+100, 1)}, api.ErrArg},
		{[]journal.Write{write(math.MinInt, 1)}, api.ErrArg},
		{[]journal.Write{write(math.MaxInt, 1)}, api.ErrArg},
		{[]journal.Write{write(97, 1), write(96, 1)}, api.ErrArg},
		{[]journal.Write{write(300, 1), write(299, 1)}, api.ErrArg},
		{writes(97, 97), api.ErrLarge},
		{writes(97, 203), api.ErrLarge},
		{append(writes(97, 97), writes(97, 97)...), api.ErrLarge},
		{outside, api.ErrArg},
		{twice, api.ErrArg},
	} {
		d := newDisk(t, 300)
		j := open(t, d)
		d.Fuse(0)
		want(t, "commit", j.Commit(c.l...), c.wanted)
		want(t, "steps", d.Steps(), 0)
		want(t, "power", d.Down(), false)
		want(t, "number", j.Number(), 0)
		want(t, "lost by", j.Err(), api.OK)
		d.Fuse(-1)
		want(t, "commit behind it", j.Commit(write(299, 1)), api.OK)
	}
}

// P4.3: 96 sectors are the most, however often each is written.
func TestCommitMost(t *testing.T) {
	d := newDisk(t, 4096)
	j := open(t, d)
	l := append(writes(3000, 96), writes(4000, 96)...)
	for i := range l {
		l[i].At = 4000 + i%96
	}
	want(t, "commit", j.Commit(l...), api.OK)
	for i := range 96 {
		wantSector(t, d, 4000+i, l[96+i].Block)
	}
	want(t, "opened again", open(t, d).Number(), 1)
}

// P4.3: with an error of the disk in the midst of a commit the journal is lost, by that error alone.
func TestCommitLost(t *testing.T) {
	l := writes(150, 3)
	for fuse := range 11 {
		d := newDisk(t, 200)
		j := open(t, d)
		j.Commit(write(150, 50))
		d.Fuse(fuse)
		want(t, "commit", j.Commit(l...), api.ErrPower)
		want(t, "number", j.Number(), 1)
		d.Crash(true, true, true)
		done := d.Steps()
		want(t, "lost by", j.Err(), api.ErrPower)
		want(t, "sectors", j.Sectors(), 200)
		for _, l := range [][]journal.Write{nil, {write(150, 1)}, {write(1, 1)}, writes(97, 97)} {
			want(t, "commit", j.Commit(l...), api.ErrPower)
		}
		for _, at := range []int{0, 150, 200, -1} {
			b, e := j.Read(at)
			want(t, "read", e, api.ErrPower)
			want(t, "block", b, api.Block{})
		}
		want(t, "steps", d.Steps(), done)
		j = open(t, d)
		want(t, "opened again", j.Err(), api.OK)
		want(t, "commit", j.Commit(l...), api.OK)
		wantSector(t, d, 152, block(3))
	}
}

// P4.3: without power a commit is lost at its first step; a disk that only can't be read loses nothing.
func TestCommitNoPower(t *testing.T) {
	d := newDisk(t, 200)
	j := open(t, d)
	d.Fuse(0)
	d.Barrier()
	_, e := j.Read(150)
	want(t, "read", e, api.ErrPower)
	want(t, "commit of nothing", j.Commit(), api.OK)
	want(t, "commit of no sector", j.Commit(write(200, 1)), api.ErrArg)
	want(t, "lost by", j.Err(), api.OK)
	d.Crash()
	want(t, "commit", j.Commit(write(150, 1)), api.OK)
	d.Fuse(0)
	d.Barrier()
	want(t, "commit", j.Commit(write(150, 2)), api.ErrPower)
	want(t, "lost by", j.Err(), api.ErrPower)
}

// P4.3: Read is the disk's, with its errors.
func TestRead(t *testing.T) {
	d := newDisk(t, 200)
	j := open(t, d)
	d.Write(150, block(7))
	for at := -1; at <= 200; at++ {
		b, e := j.Read(at)
		wanted, we := d.Read(at)
		want(t, "block", b, wanted)
		want(t, "read", e, we)
	}
	_, e := j.Read(math.MinInt)
	want(t, "read", e, api.ErrArg)
}

// P4.3: the number doesn't go round.
func TestNumberEnds(t *testing.T) {
	d := newDisk(t, 200)
	lay(d, journal.Head(math.MaxUint64-1))
	j := open(t, d)
	for range 3 {
		want(t, "commit", j.Commit(write(150, 1)), api.OK)
		want(t, "number", j.Number(), math.MaxUint64)
	}
	want(t, "number", open(t, d).Number(), math.MaxUint64)
}

// P4.3: of nil ErrNil, zero.
func TestNil(t *testing.T) {
	var j *journal.Journal
	want(t, "commit", j.Commit(write(150, 1)), api.ErrNil)
	want(t, "commit of nothing", j.Commit(), api.ErrNil)
	b, e := j.Read(0)
	want(t, "read", e, api.ErrNil)
	want(t, "block", b, api.Block{})
	want(t, "number", j.Number(), 0)
	want(t, "error", j.Err(), api.ErrNil)
	want(t, "sectors", j.Sectors(), 0)
}

// What is handed in is neither changed, nor kept.
func TestCommitMemory(t *testing.T) {
	d := newDisk(t, 200)
	j := open(t, d)
	room := []journal.Write{write(199, 1), write(150, 2), write(199, 3), write(97, 4), write(98, 5)}
	before := slices.Clone(room)
	want(t, "commit", j.Commit(room[:3]...), api.OK)
	want(t, "writes stay", slices.Equal(room, before), true)
	room[1].Block[0]++
	wantSector(t, d, 150, block(2))
	want(t, "opened again", open(t, d).Number(), 1)
	wantSector(t, d, 150, block(2))
	wantSector(t, d, 97, api.Block{})
}
