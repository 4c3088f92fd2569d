package files_test

import (
	"testing"

	"parterre/api"
	"parterre/disk"
	"parterre/files"
)

// two are files that were opened twice on one disk, with the same on it.
func two(t *testing.T, sectors int, l ...files.Act) (f, g *files.Files, d *disk.Disk, m model) {
	t.Helper()
	f, d, m = begun(t, sectors, l...)
	return f, open(t, d), d, m
}

// junk stands in sectors of the table as if it were written beside the files, and lasts.
func junk(d *disk.Disk, from, n int) {
	for i := range n {
		d.Write(from+i, api.Block{7, byte(i)})
	}
	d.Barrier()
}

// P6.2: a sector of the table that others turned is another one, though the batch didn't turn it.
func TestBesideTurned(t *testing.T) {
	for _, n := range []int{1, 6, 7, 12, 13, 144} {
		f, g, d, m := two(t, 200, files.Put("first", ""))
		want(t, "by the other", g.Do(append(many(0, n-1, 0), files.Rename("first", "last"))...), api.OK)
		m = wantBatch(t, f, d, m, files.Put("b", ""))
		wantAsked(t, open(t, d), m)
		want(t, "opened again", len(open(t, d).List()), 2)
	}
}

// P6.2: whatever stands in whichever sector of the table: it is put right, by acts that turn nothing, too.
func TestBesideJunk(t *testing.T) {
	for at := 97; at < 121; at++ {
		for _, a := range []files.Act{files.Put("b", "x"), files.Put("a", "hi"), files.Delete("a")} {
			f, d, m := begun(t, 200, files.Put("a", "hi"))
			junk(d, at, 1)
			m = wantBatch(t, f, d, m, a)
			wantAsked(t, open(t, d), m)
		}
	}
	f, d, m := begun(t, 200, files.Put("a", "hi"), files.Put("b", ""))
	junk(d, 97, 24)
	steps := d.Steps()
	m = wantBatch(t, f, d, m, files.Rename("a", "n"), files.Rename("n", "a"))
	want(t, "steps", d.Steps()-steps, 2*24+6)
	wantAsked(t, open(t, d), m)
}

// P6.2: what is on the disk already isn't another one, though it is for the files' own table.
func TestBesideThere(t *testing.T) {
	for _, l := range [][]files.Act{
		{files.Put("a", "hi")},
		{files.Put("a", text(1, 700)), files.Put("b", ""), files.Put("c", "x"), files.Delete("a")},
		many(0, 144, 0),
		many(0, 50, 1),
	} {
		f, g, d, m := two(t, 200)
		want(t, "by the other", g.Do(l...), api.OK)
		steps := d.Steps()
		m = wantBatch(t, f, d, m, l...)
		want(t, "steps", d.Steps(), steps)
		m = wantBatch(t, f, d, m, files.Put("new", ""), files.Delete("new"))
		want(t, "steps", d.Steps(), steps)
		wantAsked(t, open(t, d), m)
	}
}

// P6.2: of the files' sectors, too.
func TestBesideData(t *testing.T) {
	data := text(1, 2000)
	f, g, d, m := two(t, 200, files.Put("a", data))
	want(t, "by the other", g.Do(files.Delete("a"), files.Put("b", text(2, 600)), files.Put("c", data[1024:])), api.OK)
	steps := d.Steps()
	m = wantBatch(t, f, d, m, files.Put("a", data))
	want(t, "the table's, and two of the file's four", d.Steps()-steps, 2*3+6)
	junk(d, 122, 1)
	steps = d.Steps()
	m = wantBatch(t, f, d, m, files.Put("a", data))
	want(t, "one of the file's", d.Steps()-steps, 2*1+6)
	wantAsked(t, open(t, d), m)
}

// P6.2: for ErrLarge those count that are another one than on the disk, and no others.
func TestBesideLarge(t *testing.T) {
	f, d, m := begun(t, 400, files.Put("a", "hi"))
	junk(d, 97, 24)
	want(t, "do", f.Do(files.Put("b", text(1, 32768)), files.Put("c", text(2, 9*512))), api.ErrLarge)
	wantAsked(t, f, m)
	want(t, "nothing is changed", d.Lasts(100), api.Block{7, 3})
	m = wantBatch(t, f, d, m, files.Put("b", text(1, 32768)), files.Put("c", text(2, 8*512)))
	wantAsked(t, open(t, d), m)
	big, rest := text(3, 32768), text(4, 31*512)
	f, g, d, m := two(t, 400)
	want(t, "by the other", g.Do(many(0, 142, 0)...), api.OK)
	want(t, "by the other", g.Do(files.Put("y", text(1, 32768))), api.OK)
	want(t, "by the other", g.Do(files.Put("z", text(2, 31*512))), api.OK)
	l := append(many(0, 142, 0), files.Put("y", big), files.Put("z", rest))
	want(t, "model", m.mustAfter(l).changed(d), 95)
	m = wantBatch(t, f, d, m, l...)
	wantAsked(t, open(t, d), m)
}

// P6.2: without acts OK, and nothing is done; nor is it behind an error of an act.
func TestBesideNothing(t *testing.T) {
	f, d, m := begun(t, 200, files.Put("a", "hi"))
	junk(d, 97, 3)
	steps := d.Steps()
	want(t, "do", f.Do(), api.OK)
	want(t, "do", f.Do([]files.Act{}...), api.OK)
	want(t, "do", f.Do(files.Put("b", ""), files.Delete("c")), api.ErrNone)
	want(t, "do", f.Do(files.Act{}), api.ErrKind)
	want(t, "steps", d.Steps(), steps)
	want(t, "number", f.Number(), 1)
	want(t, "it stands there yet", d.Lasts(97), api.Block{7, 0})
	wantAsked(t, f, m)
}

// P6.2: without power the disk's sectors can't be asked for: then all is answered as if nothing were written beside.
func TestBesideNoPower(t *testing.T) {
	for _, c := range []struct {
		l      []files.Act
		wanted api.Errno
	}{
		{nil, api.OK},
		{[]files.Act{files.Put("c", "")}, api.OK},
		{[]files.Act{files.Rename("c", "d"), files.Rename("d", "c")}, api.OK},
		{[]files.Act{files.Put("b", text(1, 32768)), files.Put("d", text(2, 32*512))}, api.ErrLarge},
		{[]files.Act{files.Put("b", text(1, 32768)), files.Put("d", text(2, 31*512))}, api.ErrPower},
		{[]files.Act{files.Put("b", "")}, api.ErrPower},
		{[]files.Act{files.Put("a", "hi")}, api.ErrPower},
		{[]files.Act{files.Delete("b")}, api.ErrNone},
	} {
		f, d, _ := begun(t, 400, files.Put("a", "hi"), files.Put("c", ""))
		junk(d, 98, 20)
		d.Fuse(0)
		d.Barrier()
		want(t, "do", f.Do(c.l...), c.wanted)
		want(t, "lost", f.Err() == api.ErrPower, c.wanted == api.ErrPower)
	}
}

// P6.4: the power goes in a batch that puts the table right: opened again it is right, or as it was written beside.
func TestBesidePower(t *testing.T) {
	for fuse := range 2*4 + 6 + 1 {
		for _, mask := range []uint64{0, 1, 2, 4, 8, 5, 10, 15} {
			f, g, d, m := two(t, 200)
			other, _ := m.after(many(0, 18, 0))
			want(t, "by the other", g.Do(many(0, 18, 0)...), api.OK)
			after, _ := m.after([]files.Act{files.Put("a", "hi")})
			d.Fuse(fuse)
			e := f.Do(files.Put("a", "hi"))
			want(t, "do", e == api.OK, fuse == 2*4+6)
			crash(d, mask)
			again := open(t, d)
			if e == api.OK || again.Has("a") {
				wantModel(t, again, d, after)
			} else {
				wantModel(t, again, d, other)
			}
		}
	}
}

// P6.2: long rows of batches of files that were opened several times, with junk between: behind each the table is just that of the one who did it.
func TestBesideLong(t *testing.T) {
	c, d := chance(14), newDisk(t, 200)
	var all [3]*files.Files
	var models [3]model
	for i := range all {
		all[i], models[i] = open(t, d), model{sectors: 200}
	}
	for range 1500 {
		i := c.below(3)
		if c.below(8) == 0 {
			junk(d, 97+c.below(24), 1)
		}
		var l []files.Act
		for range 1 + c.below(9) {
			name := name(c.below(40))
			l = append(l, []files.Act{files.Put(name, ""), files.Put(name, ""), files.Delete(name), files.Rename(name, "n"+name)}[c.below(4)])
		}
		if _, e := models[i].after(l); e != api.OK {
			steps := d.Steps()
			want(t, "do", all[i].Do(l...), e)
			want(t, "steps", d.Steps(), steps)
			wantAsked(t, all[i], models[i])
			continue
		}
		models[i] = wantBatch(t, all[i], d, models[i], l...)
		wantAsked(t, open(t, d), models[i])
	}
	for i := range models {
		want(t, "files came up", len(models[i].files) > 0, true)
	}
}
