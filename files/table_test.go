package files_test

import (
	"strings"
	"testing"

	"parterre/api"
	"parterre/disk"
	"parterre/files"
	"parterre/journal"
)

// want: a test fails, if something is another thing than was wanted.
func want[T comparable](t *testing.T, what string, got, wanted T) {
	t.Helper()
	if got != wanted {
		t.Errorf("%s: %v, wanted %v", what, got, wanted)
	}
}

func newDisk(t *testing.T, sectors int) *disk.Disk {
	t.Helper()
	d, e := disk.New(sectors)
	if e != api.OK {
		t.Fatalf("a disk of %d sectors: %v", sectors, e)
	}
	return d
}

func open(t *testing.T, d *disk.Disk) *files.Files {
	t.Helper()
	f, e := files.Open(d)
	if e != api.OK || f == nil {
		t.Fatalf("open: %v", e)
	}
	return f
}

// wantNoFiles: Open has that error, answers no files, and does nothing.
func wantNoFiles(t *testing.T, d *disk.Disk, wanted api.Errno) {
	t.Helper()
	steps := d.Steps()
	f, e := files.Open(d)
	want(t, "open", e, wanted)
	want(t, "files", f, nil)
	want(t, "steps", d.Steps(), steps)
}

// P6.1: a disk has to have a sector behind the table.
func TestOpenSmall(t *testing.T) {
	for _, n := range []int{64, 65, 96, 97, 98, 120, 121} {
		wantNoFiles(t, newDisk(t, n), api.ErrArg)
	}
	for _, n := range []int{122, 123, 200, 4095, 4096} {
		d := newDisk(t, n)
		f := open(t, d)
		wantModel(t, f, d, model{sectors: n})
		want(t, "free", f.Free(), n-121)
		want(t, "sectors", f.Sectors(), n)
		want(t, "number", f.Number(), 0)
		want(t, "error", f.Err(), api.OK)
		want(t, "steps", d.Steps(), 0)
	}
}

// P6.1: layer 4's error comes ahead of the others.
func TestOpenJournal(t *testing.T) {
	wantNoFiles(t, nil, api.ErrNil)
	for _, n := range []int{64, 121, 200} {
		d := newDisk(t, n)
		d.Write(97, api.Block{1})
		d.Fuse(0)
		d.Barrier()
		wantNoFiles(t, d, api.ErrPower)
	}
}

// layJournal leaves a transaction in a disk's journal that isn't done yet.
func layJournal(d *disk.Disk, l ...journal.Write) {
	d.Write(0, journal.Head(7, l...))
	for i, w := range l {
		d.Write(1+i, w.Block)
	}
	d.Barrier()
}

// P6.1: what the journal has is done first, on a disk without a sector behind the table too; only then the table is looked at.
func TestOpenDoes(t *testing.T) {
	m := model{sectors: 200, files: map[string]file{"a": {place: 0, at: 150, data: "hi"}}}
	image := m.image()
	d := newDisk(t, 200)
	d.Write(97, api.Block{1})
	layJournal(d, journal.Write{At: 97, Block: image[97]}, journal.Write{At: 150, Block: image[150]})
	for fuse := range 3 {
		d.Fuse(fuse)
		f, e := files.Open(d)
		want(t, "open", e == api.ErrPower && f == nil, true)
		d.Crash()
	}
	f := open(t, d)
	wantModel(t, f, d, m)
	want(t, "number", f.Number(), 7)
	d = newDisk(t, 121)
	layJournal(d, journal.Write{At: 97, Block: api.Block{1}})
	f, e := files.Open(d)
	want(t, "open", e == api.ErrArg && f == nil, true)
	want(t, "it was done", d.Lasts(97), api.Block{1})
}

// P6.1: tables as told: files anywhere, in any places, of any lengths.
func TestOpenTables(t *testing.T) {
	full := map[string]file{}
	for i := range 144 {
		name := strings.Repeat("x", i/2) + string("yz"[i%2])
		full[name] = file{place: 143 - i, at: 4095 - i, data: text(i, 1+i*3)}
	}
	for _, m := range []model{
		{200, nil},
		{200, map[string]file{"a": {0, 121, "hi"}}},
		{200, map[string]file{"a": {143, 199, text(1, 512)}}},
		{122, map[string]file{"a": {5, 121, text(1, 512)}, "b": {6, 0, ""}}},
		{200, map[string]file{strings.Repeat("~", 72): {17, 136, text(1, 32768)}, strings.Repeat("!", 72): {18, 135, "\x00"}}},
		{200, map[string]file{"a": {2, 122, text(1, 513)}, "b": {1, 124, text(2, 511)}, "c": {0, 121, text(3, 1)}, "d": {9, 125, text(4, 1025)}}},
		{4096, full},
	} {
		d := newDisk(t, m.sectors)
		m.lay(d)
		steps := d.Steps()
		f := open(t, d)
		want(t, "steps", d.Steps(), steps)
		wantModel(t, f, d, m)
	}
}

// P6.1: what stands behind a file's end isn't the table's; nor has a file of no bytes a first sector.
func TestOpenLoose(t *testing.T) {
	d := newDisk(t, 200)
	model{200, map[string]file{"a": {0, 150, text(1, 512)}}}.lay(d)
	model{200, map[string]file{"a": {0, 150, text(1, 300)}, "b": {1, 0, ""}, "c": {2, 150, ""}, "d": {3, 1 << 31, ""}}}.layTable(d)
	f := open(t, d)
	for name, wanted := range map[string]string{"a": text(1, 300), "b": "", "c": "", "d": ""} {
		got, e := f.Read(name)
		want(t, "read", got == wanted && e == api.OK, true)
	}
	want(t, "free", f.Free(), 78)
	want(t, "do", f.Do(files.Put("c", "x"), files.Delete("d"), files.Rename("b", "d")), api.OK)
	want(t, "behind a batch", open(t, d).Free(), 77)
}

// layTable writes the table alone to a disk.
func (m model) layTable(d *disk.Disk) {
	for at, b := range m.image() {
		if at < 121 {
			d.Write(at, b)
		}
	}
	d.Barrier()
}

// P6.1: tables of which a name, a length or a run isn't as told.
func TestOpenBroken(t *testing.T) {
	for _, l := range []map[string]file{
		{"a b": {0, 121, "x"}}, {" ": {0, 121, "x"}}, {"a\x7f": {0, 121, "x"}}, {"a\x00b": {0, 121, "x"}}, {"\x80": {0, 121, "x"}}, {"é": {0, 121, "x"}}, {"\xff": {0, 121, "x"}},
		{"": {0, 121, "x"}}, {"": {0, 0, "x"}}, {"": {0, 121, ""}},
		{"a": {0, 121, text(1, 32769)}}, {"a": {0, 121, text(1, 39000)}},
		{"a": {0, 120, "x"}}, {"a": {0, 120, text(1, 513)}}, {"a": {0, 97, "x"}}, {"a": {0, 96, "x"}}, {"a": {0, 1, "x"}}, {"a": {0, 0, "x"}},
		{"a": {0, 200, "x"}}, {"a": {0, 199, text(1, 513)}}, {"a": {0, 137, text(1, 32768)}}, {"a": {0, 4096, "x"}}, {"a": {0, 1 << 31, "x"}}, {"a": {0, 1<<32 - 1, "x"}},
		{"a": {0, 150, "x"}, "b": {1, 150, "x"}}, {"a": {0, 150, text(1, 513)}, "b": {1, 151, "x"}}, {"a": {0, 150, text(1, 513)}, "b": {143, 149, text(1, 513)}}, {"a": {0, 150, text(1, 5000)}, "b": {143, 155, "x"}},
	} {
		d := newDisk(t, 200)
		model{200, l}.layTable(d)
		wantNoFiles(t, d, api.ErrBroken)
	}
	for _, n := range []byte{0, 2, 71, 73, 74, 80, 128, 255} {
		for _, name := range []string{"a", strings.Repeat("a", 72)} {
			wantBroken(t, name, 0, n)
		}
	}
}

// wantBroken: a table isn't as told any more, if a byte of a place (of its name's length, the 0th) is another one.
func wantBroken(t *testing.T, name string, at int, n byte) {
	t.Helper()
	for _, place := range []int{0, 1, 5, 6, 100, 143} {
		d := newDisk(t, 200)
		m := model{200, map[string]file{name: {place, 150, "x"}}}
		m.layTable(d)
		b := m.image()[97+place/6]
		b[place%6*81+at] = n
		d.Write(97+place/6, b)
		wantNoFiles(t, d, api.ErrBroken)
	}
}

// P6.1: a name is there twice, wherever.
func TestOpenTwice(t *testing.T) {
	for _, places := range [][2]int{{0, 1}, {0, 143}, {5, 6}, {100, 7}} {
		for _, data := range []string{"", "x"} {
			d := newDisk(t, 200)
			first := model{200, map[string]file{"aa": {places[0], 150, data}}}.image()
			second := model{200, map[string]file{"aa": {places[1], 160, data}}}.image()
			for at := 97; at < 121; at++ {
				b, other := first[at], second[at]
				for i := range b {
					b[i] |= other[i]
				}
				d.Write(at, b)
			}
			wantNoFiles(t, d, api.ErrBroken)
		}
	}
}

// P6.1: there are noughts behind names, in places of none, and in what is left of each sector.
func TestOpenNoughts(t *testing.T) {
	for at := 2; at <= 72; at++ {
		for _, n := range []byte{1, 'a', 255} {
			wantBroken(t, "a", at, n)
		}
	}
	m := model{200, map[string]file{"a": {1, 150, "x"}, "b": {142, 151, "x"}}}
	image := m.image()
	d := newDisk(t, 200)
	m.layTable(d)
	for sector := 97; sector < 121; sector++ {
		for at := range 512 {
			if b := image[sector]; at >= 486 || strings.Trim(string(b[at/81*81:at/81*81+81]), "\x00") == "" {
				b[at] = 'z'
				d.Write(sector, b)
				wantNoFiles(t, d, api.ErrBroken)
			}
		}
		d.Write(sector, image[sector])
	}
	want(t, "free", open(t, d).Free(), 77)
}

// P6.1: a fault tells in each of the 144 places.
func TestOpenPlaces(t *testing.T) {
	for i := range 144 {
		for _, x := range []file{{i, 120, "x"}, {i, 4096, "x"}, {i, 300, text(1, 32769)}, {i, 2000, "x"}} {
			d := newDisk(t, 4096)
			model{4096, map[string]file{"a": {(i + 7) % 144, 2000, "x"}, "b": x}}.layTable(d)
			wantNoFiles(t, d, api.ErrBroken)
		}
	}
}

// P6.1: names have from 1 to 72 bytes, each from 33 to 126.
func TestNamed(t *testing.T) {
	want(t, "nothing", files.Named(""), false)
	for b := range 256 {
		s, good := string([]byte{byte(b)}), b >= 33 && b <= 126
		for _, c := range []struct {
			s    string
			good bool
		}{
			{s, good}, {"a" + s, good}, {s + "a", good}, {"a" + s + "a", good},
			{strings.Repeat("a", 71) + s, good}, {s + strings.Repeat("a", 71), good}, {strings.Repeat("a", 72) + s, false}, {strings.Repeat(s, 72), good}, {strings.Repeat(s, 73), false},
		} {
			if files.Named(c.s) != c.good {
				t.Errorf("named %q: %t", c.s, !c.good)
			}
		}
	}
	for n := range 200 {
		want(t, "so many bytes", files.Named(strings.Repeat("n", n)), n >= 1 && n <= 72)
	}
	want(t, "very long", files.Named(strings.Repeat("n", 1<<20)), false)
	want(t, "letters of several bytes", files.Named("é"), false)
}

// P6.1: the three acts.
func TestActs(t *testing.T) {
	want(t, "put", files.Put("a", "hi"), files.Act{Kind: 1, Name: "a", Data: "hi"})
	want(t, "delete", files.Delete("a"), files.Act{Kind: 2, Name: "a"})
	want(t, "rename", files.Rename("a", "b"), files.Act{Kind: 3, Name: "a", To: "b"})
	want(t, "wrong ones", files.Put("", ""), files.Act{Kind: 1})
	want(t, "wrong ones", files.Rename(" ", " "), files.Act{Kind: 3, Name: " ", To: " "})
}
