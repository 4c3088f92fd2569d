package disk_test

import (
	"math"
	"slices"
	"testing"

	"parterre/api"
	"parterre/disk"
)

// want: a test fails, if something is another thing than was wanted.
func want[T comparable](t *testing.T, what string, got, wanted T) {
	t.Helper()
	if got != wanted {
		t.Errorf("%s: %v, wanted %v", what, got, wanted)
	}
}

func wantWaits(t *testing.T, d *disk.Disk, wanted ...int) {
	t.Helper()
	if got := d.Waits(); !slices.Equal(got, wanted) {
		t.Errorf("waits: %v, wanted %v", got, wanted)
	}
}

// wantSector: a sector is full of one byte, and full of another one as it lasts.
func wantSector(t *testing.T, d *disk.Disk, at int, now, lasts byte) {
	t.Helper()
	b, e := d.Read(at)
	if e != api.OK || b != full(now) {
		t.Errorf("sector %d begins with %d (%v), wanted %d", at, b[0], e, now)
	}
	if b := d.Lasts(at); b != full(lasts) {
		t.Errorf("sector %d lasts with %d, wanted %d", at, b[0], lasts)
	}
}

// full is a block of one byte.
func full(n byte) api.Block {
	var b api.Block
	for i := range b {
		b[i] = n
	}
	return b
}

func newDisk(t *testing.T, sectors int) *disk.Disk {
	t.Helper()
	d, e := disk.New(sectors)
	if e != api.OK || d == nil {
		t.Fatalf("a disk of %d sectors: %v", sectors, e)
	}
	return d
}

// write writes a block of one byte, and fails unless that is OK.
func write(t *testing.T, d *disk.Disk, at int, n byte) {
	t.Helper()
	want(t, "write", d.Write(at, full(n)), api.OK)
}

// P2.1: there may be from 64 to 4096 sectors.
func TestNew(t *testing.T) {
	for _, n := range []int{64, 65, 97, 4095, 4096} {
		want(t, "sectors", newDisk(t, n).Sectors(), n)
	}
	for _, n := range []int{63, 4097, 1, 0, -1, -64, 1 << 20, math.MaxInt, math.MinInt} {
		d, e := disk.New(n)
		want(t, "error", e, api.ErrArg)
		want(t, "disk", d, nil)
	}
}

// P2.1: at first all is 0, nothing waits, there is power, and no fuse.
func TestNewIsEmpty(t *testing.T) {
	for _, n := range []int{64, 4096} {
		d := newDisk(t, n)
		for at := range n {
			wantSector(t, d, at, 0, 0)
		}
		wantWaits(t, d)
		want(t, "down", d.Down(), false)
		want(t, "steps", d.Steps(), 0)
		for range 1000 {
			write(t, d, n-1, 1)
		}
		want(t, "steps", d.Steps(), 1000)
	}
}

// P2.1: each sector keeps its own block.
func TestRead(t *testing.T) {
	d := newDisk(t, 64)
	for at := range 64 {
		write(t, d, at, byte(at+1))
	}
	for at := range 64 {
		wantSector(t, d, at, byte(at+1), 0)
	}
	want(t, "barrier", d.Barrier(), api.OK)
	write(t, d, 63, 200)
	write(t, d, 63, 201)
	wantSector(t, d, 63, 201, 64)
	wantSector(t, d, 62, 63, 63)
	other := newDisk(t, 64)
	wantSector(t, other, 63, 0, 0)
}

// P2.1: a block is kept to its last byte.
func TestReadWholeBlock(t *testing.T) {
	d := newDisk(t, 64)
	var b api.Block
	for i := range b {
		b[i] = byte(i ^ i>>8)
	}
	want(t, "write", d.Write(7, b), api.OK)
	got, e := d.Read(7)
	want(t, "read", got == b && e == api.OK, true)
	d.Barrier()
	want(t, "lasts", d.Lasts(7), b)
}

// P2.1, P2.2: there is no sector below 0 or behind the last one.
func TestOutside(t *testing.T) {
	for _, n := range []int{64, 4096} {
		d := newDisk(t, n)
		for _, at := range []int{-1, n, n + 1, -n, math.MaxInt, math.MinInt} {
			b, e := d.Read(at)
			want(t, "read", e, api.ErrArg)
			want(t, "block", b, api.Block{})
			want(t, "write", d.Write(at, full(1)), api.ErrArg)
			want(t, "lasts", d.Lasts(at), api.Block{})
		}
		wantWaits(t, d)
		want(t, "steps", d.Steps(), 0)
		write(t, d, 0, 1)
		write(t, d, n-1, 2)
		d.Barrier()
		wantSector(t, d, 0, 1, 1)
		wantSector(t, d, n-1, 2, 2)
	}
}

// P2.1, P2.2: without power ErrPower comes ahead of ErrArg, and what there is can't be read.
func TestNoPower(t *testing.T) {
	d := newDisk(t, 64)
	write(t, d, 1, 1)
	d.Barrier()
	write(t, d, 2, 2)
	d.Fuse(0)
	want(t, "barrier", d.Barrier(), api.ErrPower)
	for _, at := range []int{1, 2, -1, 64} {
		b, e := d.Read(at)
		want(t, "read", e, api.ErrPower)
		want(t, "block", b, api.Block{})
		want(t, "write", d.Write(at, full(3)), api.ErrPower)
	}
	want(t, "barrier", d.Barrier(), api.ErrPower)
	want(t, "down", d.Down(), true)
	want(t, "steps", d.Steps(), 3)
	want(t, "sectors", d.Sectors(), 64)
	wantWaits(t, d, 2)
	want(t, "lasts", d.Lasts(1), full(1))
	want(t, "lasts", d.Lasts(2), full(0))
	d.Crash(true)
	wantSector(t, d, 1, 1, 1)
	wantSector(t, d, 2, 2, 2)
}

// P2.2: behind a barrier all lasts, and nothing waits.
func TestBarrier(t *testing.T) {
	d := newDisk(t, 64)
	want(t, "barrier of nothing", d.Barrier(), api.OK)
	write(t, d, 9, 1)
	write(t, d, 4, 2)
	wantSector(t, d, 9, 1, 0)
	wantWaits(t, d, 4, 9)
	want(t, "barrier", d.Barrier(), api.OK)
	wantWaits(t, d)
	wantSector(t, d, 9, 1, 1)
	wantSector(t, d, 4, 2, 2)
	d.Crash()
	wantSector(t, d, 9, 1, 1)
	wantSector(t, d, 4, 2, 2)
	want(t, "steps", d.Steps(), 4)
}

// P2.2, P2.3: a fuse of n lets n steps be done, writes and barriers alike.
func TestFuse(t *testing.T) {
	for _, n := range []int{0, 1, 2, 3, 10} {
		d := newDisk(t, 64)
		d.Fuse(n)
		for i := range n {
			if i%2 == 0 {
				write(t, d, 5, byte(i+1))
			} else {
				want(t, "barrier", d.Barrier(), api.OK)
			}
			want(t, "down", d.Down(), false)
		}
		waits := d.Waits()
		want(t, "write", d.Write(6, full(9)), api.ErrPower)
		want(t, "down", d.Down(), true)
		want(t, "steps", d.Steps(), n)
		wantWaits(t, d, waits...)
		want(t, "lasts", d.Lasts(6), full(0))
	}
}

// P2.2: a barrier that the fuse doesn't allow lets nothing last.
func TestFuseBarrier(t *testing.T) {
	d := newDisk(t, 64)
	d.Fuse(1)
	write(t, d, 5, 5)
	want(t, "barrier", d.Barrier(), api.ErrPower)
	want(t, "down", d.Down(), true)
	want(t, "steps", d.Steps(), 1)
	wantWaits(t, d, 5)
	want(t, "lasts", d.Lasts(5), full(0))
	d.Crash()
	wantSector(t, d, 5, 0, 0)
}

// P2.2: what isn't a step doesn't burn the fuse: reads, and writes to no sector, even with a fuse of 0.
func TestFuseStays(t *testing.T) {
	d := newDisk(t, 64)
	for _, n := range []int{0, 1} {
		d.Fuse(n)
		for range 5 {
			d.Read(1)
			want(t, "write", d.Write(64, full(1)), api.ErrArg)
			want(t, "write", d.Write(-1, full(1)), api.ErrArg)
			d.Lasts(1)
			d.Waits()
			d.Steps()
		}
		want(t, "down", d.Down(), false)
		want(t, "steps", d.Steps(), 0)
	}
	write(t, d, 1, 1)
	want(t, "write", d.Write(1, full(2)), api.ErrPower)
}

// P2.3: the fuse is the one that was set last; any below 0 is none.
func TestFuseAnew(t *testing.T) {
	for _, n := range []int{-1, -2, -4096, math.MinInt} {
		d := newDisk(t, 64)
		d.Fuse(0)
		d.Fuse(n)
		for range 200 {
			write(t, d, 1, 1)
			want(t, "barrier", d.Barrier(), api.OK)
		}
		want(t, "down", d.Down(), false)
	}
	d := newDisk(t, 64)
	d.Fuse(1)
	d.Fuse(math.MaxInt)
	write(t, d, 1, 1)
	write(t, d, 1, 2)
	d.Fuse(0)
	want(t, "down", d.Down(), false)
	want(t, "write", d.Write(1, full(3)), api.ErrPower)
	d.Fuse(5)
	want(t, "down", d.Down(), true)
	want(t, "write", d.Write(1, full(3)), api.ErrPower)
	want(t, "steps", d.Steps(), 2)
}

// P2.3: Waits are the sectors written since the last barrier, rising, each once.
func TestWaits(t *testing.T) {
	d := newDisk(t, 4096)
	for _, at := range []int{4095, 0, 17, 64, 17, 9, 100, 0, 1000} {
		write(t, d, at, 0)
	}
	wantWaits(t, d, 0, 9, 17, 64, 100, 1000, 4095)
	d.Barrier()
	wantWaits(t, d)
	write(t, d, 3, 0)
	wantWaits(t, d, 3)
}

// P2.3: of what waits there is what is kept; those for which nothing is said are lost.
func TestCrashKept(t *testing.T) {
	for _, c := range []struct {
		kept   []bool
		wanted [3]byte // of sectors 10, 20, 30
	}{
		{nil, [3]byte{1, 2, 0}},
		{[]bool{}, [3]byte{1, 2, 0}},
		{[]bool{true}, [3]byte{11, 2, 0}},
		{[]bool{false, true}, [3]byte{1, 12, 0}},
		{[]bool{false, false, true}, [3]byte{1, 2, 13}},
		{[]bool{true, true, true}, [3]byte{11, 12, 13}},
		{[]bool{true, false, true, true, true, false}, [3]byte{11, 2, 13}},
		{[]bool{false, false, false, true, true, true}, [3]byte{1, 2, 0}},
	} {
		d := newDisk(t, 64)
		write(t, d, 10, 1)
		write(t, d, 20, 2)
		write(t, d, 40, 4)
		d.Barrier()
		write(t, d, 30, 3)
		write(t, d, 20, 12)
		write(t, d, 30, 13)
		write(t, d, 10, 11)
		wantWaits(t, d, 10, 20, 30)
		kept := slices.Clone(c.kept)
		d.Crash(kept...)
		for i, n := range c.wanted {
			wantSector(t, d, 10*(i+1), n, n)
		}
		wantSector(t, d, 40, 4, 4)
		wantSector(t, d, 50, 0, 0)
		wantWaits(t, d)
		want(t, "kept stays", slices.Equal(kept, c.kept), true)
		want(t, "steps", d.Steps(), 8)
	}
}

// P2.3: the power is there again, and there is no fuse; all lasts.
func TestCrashPower(t *testing.T) {
	d := newDisk(t, 64)
	d.Fuse(3)
	d.Crash()
	for range 10 {
		write(t, d, 1, 1)
	}
	d.Fuse(0)
	want(t, "write", d.Write(2, full(2)), api.ErrPower)
	d.Crash(true)
	want(t, "down", d.Down(), false)
	wantSector(t, d, 1, 1, 1)
	wantSector(t, d, 2, 0, 0)
	for range 10 {
		write(t, d, 1, 3)
	}
	want(t, "steps", d.Steps(), 20)
	d.Crash()
	wantSector(t, d, 1, 1, 1)
	d.Crash(true, true)
	wantSector(t, d, 1, 1, 1)
}

// A nil disk does nothing.
func TestNil(t *testing.T) {
	var d *disk.Disk
	b, e := d.Read(0)
	want(t, "read", e, api.ErrNil)
	want(t, "block", b, api.Block{})
	want(t, "write", d.Write(0, full(1)), api.ErrNil)
	want(t, "write to none", d.Write(-1, full(1)), api.ErrNil)
	want(t, "barrier", d.Barrier(), api.ErrNil)
	want(t, "sectors", d.Sectors(), 0)
	want(t, "steps", d.Steps(), 0)
	want(t, "down", d.Down(), false)
	want(t, "lasts", d.Lasts(0), api.Block{})
	wantWaits(t, d)
	d.Fuse(1)
	d.Crash()
	d.Crash(true)
	want(t, "barrier", d.Barrier(), api.ErrNil)
}

// What is answered is new memory.
func TestMemory(t *testing.T) {
	d := newDisk(t, 64)
	write(t, d, 3, 3)
	write(t, d, 4, 4)
	d.Waits()[0] = 63
	wantWaits(t, d, 3, 4)
	b, _ := d.Read(3)
	b[0] = 9
	wantSector(t, d, 3, 3, 0)
	block := full(5)
	d.Write(5, block)
	block[0] = 6
	d.Barrier()
	wantSector(t, d, 5, 5, 5)
}
