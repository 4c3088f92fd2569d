package files_test

import (
	"encoding/binary"
	"maps"
	"math"
	"slices"
	"strings"
	"testing"

	"parterre/api"
	"parterre/disk"
	"parterre/files"
)

// file is one as the table tells it: its place, its first sector, and its bytes.
type file struct {
	place, at int
	data      string
}

func (f file) sectors() int {
	return (len(f.data) + 511) / 512
}

// model is the files of a disk, told by other means than the program's.
type model struct {
	sectors int
	files   map[string]file
}

// has tells whether some file has the sector.
func (m model) has(at int) bool {
	for _, f := range m.files {
		if at >= f.at && at < f.at+f.sectors() {
			return true
		}
	}
	return false
}

func (m model) free() int {
	n := 0
	for at := 121; at < m.sectors; at++ {
		if !m.has(at) {
			n++
		}
	}
	return n
}

// run is where the first n sectors are that no file has; 0, where there are none.
func (m model) run(n int) int {
	free := 0
	for at := 121; at < m.sectors; at++ {
		free++
		if m.has(at) {
			free = 0
		}
		if free == n {
			return at - n + 1
		}
	}
	return 0
}

// place is the first one of none.
func (m model) place() int {
	taken := map[int]bool{}
	for _, f := range m.files {
		taken[f.place] = true
	}
	for i := range 144 {
		if !taken[i] {
			return i
		}
	}
	return -1
}

func named(s string) bool {
	return s != "" && len(s) <= 72 && strings.IndexFunc(s, func(r rune) bool { return r < '!' || r > '~' }) < 0
}

// act does one, in place.
func (m model) act(a files.Act) api.Errno {
	old, there := m.files[a.Name]
	_, taken := m.files[a.To]
	if a.Kind < 1 || a.Kind > 3 {
		return api.ErrKind
	}
	if !named(a.Name) || a.Kind == 3 && !named(a.To) {
		return api.ErrName
	}
	if len(a.Data) > 32768 {
		return api.ErrLong
	}
	if a.Kind > 1 {
		if !there {
			return api.ErrNone
		}
		if a.Kind == 3 && taken {
			return api.ErrThere
		}
		delete(m.files, a.Name)
		if a.Kind == 3 {
			m.files[a.To] = old
		}
		return api.OK
	}
	if !there && len(m.files) == 144 {
		return api.ErrMany
	}
	f := file{place: old.place, data: a.Data}
	if !there {
		f.place = m.place()
	}
	delete(m.files, a.Name)
	if a.Data != "" {
		if f.at = m.run(f.sectors()); f.at == 0 {
			return api.ErrSpace
		}
	}
	m.files[a.Name] = f
	return api.OK
}

// after is the model behind a batch.
func (m model) after(l []files.Act) (model, api.Errno) {
	next := model{sectors: m.sectors, files: map[string]file{}}
	maps.Copy(next.files, m.files)
	for _, a := range l {
		if e := next.act(a); e != api.OK {
			return m, e
		}
	}
	return next, api.OK
}

// image is what stands in the table's sectors, and in the files'.
func (m model) image() map[int]api.Block {
	image := map[int]api.Block{}
	for i := range 24 {
		image[97+i] = api.Block{}
	}
	for name, f := range m.files {
		at := 97 + f.place/6
		b := image[at]
		p := b[f.place%6*81:]
		p[0] = byte(len(name))
		copy(p[1:], name)
		binary.BigEndian.PutUint32(p[73:], uint32(f.at))
		binary.BigEndian.PutUint32(p[77:], uint32(len(f.data)))
		image[at] = b
		for i := range f.sectors() {
			var b api.Block
			copy(b[:], f.data[i*512:])
			image[f.at+i] = b
		}
	}
	return image
}

// changed is how many sectors of the image are another one than on the disk.
func (m model) changed(d *disk.Disk) int {
	n := 0
	for at, b := range m.image() {
		if d.Lasts(at) != b {
			n++
		}
	}
	return n
}

// lay writes the image to a disk, and lets it last.
func (m model) lay(d *disk.Disk) {
	for at, b := range m.image() {
		d.Write(at, b)
	}
	d.Barrier()
}

// wantModel: there are just the model's files, as asked by their names, and as the disk has them.
func wantModel(t *testing.T, f *files.Files, d *disk.Disk, m model) {
	t.Helper()
	wantAsked(t, f, m)
	for at, b := range m.image() {
		is, e := d.Read(at)
		if is != b || d.Lasts(at) != b || e != api.OK {
			t.Errorf("sector %d: another block is there, or lasts (%v)", at, e)
		}
	}
}

// wantAsked: there are just the model's files, as asked by their names.
func wantAsked(t *testing.T, f *files.Files, m model) {
	t.Helper()
	if got, wanted := f.List(), slices.Sorted(maps.Keys(m.files)); !slices.Equal(got, wanted) {
		t.Errorf("list: %q, wanted %q", got, wanted)
	}
	for name, x := range m.files {
		got, e := f.Read(name)
		if got != x.data || e != api.OK || !f.Has(name) {
			t.Errorf("read of %q: %d bytes, %v, %t, wanted %d bytes", name, len(got), e, f.Has(name), len(x.data))
		}
	}
	want(t, "free", f.Free(), m.free())
}

// wantBatch: a batch answers what the model does, and does it, in as many steps as a commit of what it changes has; with an error nothing is changed.
func wantBatch(t *testing.T, f *files.Files, d *disk.Disk, m model, l ...files.Act) model {
	t.Helper()
	next, wanted := m.after(l)
	changed, steps, number := next.changed(d), d.Steps(), f.Number()
	if wanted == api.OK && changed > 96 {
		next, wanted = m, api.ErrLarge
	}
	want(t, "do", f.Do(l...), wanted)
	want(t, "error", f.Err(), api.OK)
	if wanted == api.OK && changed > 0 {
		steps, number = steps+2*changed+6, number+1
	}
	want(t, "steps", d.Steps(), steps)
	want(t, "number", f.Number(), number)
	wantModel(t, f, d, next)
	return next
}

// chance is a row of numbers that are the same each time, each below n.
type chance uint64

func (c *chance) below(n int) int {
	*c = *c*6364136223846793005 + 1442695040888963407
	return int(uint64(*c) >> 33 % uint64(n))
}

// text is one of n bytes, unlike those of other seeds.
func text(seed, n int) string {
	b := make([]byte, n)
	for i := range b {
		b[i] = byte(seed*31 + i*7 + i/256 + i*i/1024)
	}
	return string(b)
}

// act is any, wrong ones now and then.
func (c *chance) act(most int) files.Act {
	names := []string{"a", "b", "c", "dd", "~", "!", strings.Repeat("n", 72)}
	a := files.Act{Kind: 1 + c.below(3), Name: names[c.below(len(names))], To: names[c.below(len(names))]}
	if a.Kind == 1 {
		a.Data = text(c.below(3), c.below(most)+c.below(2)*c.below(most))
	}
	switch c.below(60) {
	case 0:
		a.Kind = []int{0, -1, 4, math.MaxInt, math.MinInt}[c.below(5)]
	case 1:
		a.Name = []string{"", " ", "a b", "\x7f", strings.Repeat("n", 73)}[c.below(5)]
	case 2:
		a.To = []string{"", " ", "a b", "\x7f", strings.Repeat("n", 73)}[c.below(5)]
	case 3:
		a.Data = text(1, 32769)
	}
	return a
}

// P6.2, P6.3: long rows of batches, each held against the model; opened again there is the same.
func TestModel(t *testing.T) {
	for _, sectors := range []int{122, 125, 140, 200, 320} {
		c, tally := chance(sectors), map[api.Errno]int{}
		d := newDisk(t, sectors)
		f, m := open(t, d), model{sectors: sectors}
		for range 400 {
			var l []files.Act
			for range 1 + c.below(5) {
				l = append(l, c.act((sectors-121)*200))
			}
			_, e := m.after(l)
			tally[e]++
			m = wantBatch(t, f, d, m, l...)
			if c.below(10) == 0 {
				f = open(t, d)
				wantAsked(t, f, m)
			}
		}
		for _, e := range []api.Errno{api.OK, api.ErrKind, api.ErrName, api.ErrLong, api.ErrNone, api.ErrThere, api.ErrSpace} {
			want(t, e.Error()+" came up", tally[e] > 0, true)
		}
	}
}
