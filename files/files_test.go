package files_test

import (
	"math"
	"slices"
	"strings"
	"testing"

	"parterre/api"
	"parterre/disk"
	"parterre/files"
)

// begun is a disk of so many sectors with some files on it, and its model.
func begun(t *testing.T, sectors int, l ...files.Act) (*files.Files, *disk.Disk, model) {
	t.Helper()
	d := newDisk(t, sectors)
	f := open(t, d)
	m, e := model{sectors: sectors}.after(l)
	want(t, "begun", e, api.OK)
	want(t, "begun", f.Do(l...), api.OK)
	wantModel(t, f, d, m)
	return f, d, m
}

// many are so many files of n bytes each, from a number on.
func many(from, count, n int) []files.Act {
	var l []files.Act
	for i := range count {
		l = append(l, files.Put(name(from+i), text(from+i, n)))
	}
	return l
}

func name(n int) string {
	return "f" + strings.Repeat("+", n/10) + string("0123456789"[n%10:n%10+1])
}

// P6.2: acts come one behind the other.
func TestDo(t *testing.T) {
	f, d, m := begun(t, 200)
	for _, l := range [][]files.Act{
		{files.Put("a", "hi"), files.Rename("a", "b")},
		{files.Put("a", ""), files.Put("c", text(1, 512))},
		{files.Put("a", "x"), files.Put("a", "y"), files.Put("a", text(2, 600))},
		{files.Rename("a", "d"), files.Rename("b", "a"), files.Rename("d", "b")},
		{files.Delete("a"), files.Put("a", "z"), files.Delete("a"), files.Put("a", text(3, 5000))},
		{files.Rename("a", "e"), files.Put("a", "new"), files.Delete("e")},
		{files.Delete("a"), files.Delete("b"), files.Delete("c")},
	} {
		m = wantBatch(t, f, d, m, l...)
		wantAsked(t, open(t, d), m)
	}
	want(t, "none is left", len(f.List()), 0)
	want(t, "free", f.Free(), 79)
}

// P6.2: the most that a file has, in bytes and in its name, and one more.
func TestDoMost(t *testing.T) {
	long := strings.Repeat("~", 72)
	f, d, m := begun(t, 200)
	m = wantBatch(t, f, d, m, files.Put(long, text(1, 32768)))
	want(t, "free", f.Free(), 79-64)
	wantBatch(t, f, d, m, files.Put(long, text(1, 32769)))
	wantBatch(t, f, d, m, files.Put(long+"~", ""))
	wantBatch(t, f, d, m, files.Rename(long, long+"~"))
	m = wantBatch(t, f, d, m, files.Put(long, text(1, 32767)))
	m = wantBatch(t, f, d, m, files.Rename(long, strings.Repeat("!", 72)))
	wantAsked(t, open(t, d), m)
}

// P6.2: each error, and its turn among those that an act has.
func TestDoErrors(t *testing.T) {
	long, far := text(1, 32769), strings.Repeat("n", 73)
	f, d, m := begun(t, 200, files.Put("a", "hi"), files.Put("b", text(1, 20000)), files.Put("c", ""))
	for _, c := range []struct {
		l      []files.Act
		wanted api.Errno
	}{
		{[]files.Act{{}}, api.ErrKind},
		{[]files.Act{{Kind: 4, Name: "a"}}, api.ErrKind},
		{[]files.Act{{Kind: -1, Name: "a", To: "d"}}, api.ErrKind},
		{[]files.Act{{Kind: math.MaxInt, Name: "", To: "", Data: long}}, api.ErrKind},
		{[]files.Act{{Kind: math.MinInt, Name: "none", Data: long}}, api.ErrKind},
		{[]files.Act{files.Put("", "")}, api.ErrName},
		{[]files.Act{files.Put("a b", long)}, api.ErrName},
		{[]files.Act{files.Put(far, "")}, api.ErrName},
		{[]files.Act{files.Delete("")}, api.ErrName},
		{[]files.Act{files.Delete("\x7f")}, api.ErrName},
		{[]files.Act{files.Rename("", "d")}, api.ErrName},
		{[]files.Act{files.Rename("a", "")}, api.ErrName},
		{[]files.Act{files.Rename("a", far)}, api.ErrName},
		{[]files.Act{files.Rename("none", " ")}, api.ErrName},
		{[]files.Act{{Kind: 3, Name: "a", To: " ", Data: long}}, api.ErrName},
		{[]files.Act{files.Put("d", long)}, api.ErrLong},
		{[]files.Act{files.Put("a", long+long)}, api.ErrLong},
		{[]files.Act{files.Delete("none")}, api.ErrNone},
		{[]files.Act{files.Rename("none", "d")}, api.ErrNone},
		{[]files.Act{files.Rename("none", "a")}, api.ErrNone},
		{[]files.Act{files.Rename("none", "none")}, api.ErrNone},
		{[]files.Act{files.Rename("a", "b")}, api.ErrThere},
		{[]files.Act{files.Rename("a", "a")}, api.ErrThere},
		{[]files.Act{files.Rename("a", "c")}, api.ErrThere},
		{[]files.Act{files.Put("d", text(1, 20000))}, api.ErrSpace},
		{[]files.Act{files.Put("a", text(1, 30000))}, api.ErrSpace},
	} {
		want(t, "model", wantError(m, c.l), c.wanted)
		wantBatch(t, f, d, m, c.l...)
		wantBatch(t, f, d, m, slices.Concat([]files.Act{files.Put("e", "new"), files.Put("a", "other"), files.Delete("e")}, c.l)...)
		wantBatch(t, f, d, m, slices.Concat(c.l, []files.Act{{}, files.Put("", ""), files.Put("e", long), files.Delete("none")})...)
	}
	wantAsked(t, open(t, d), m)
}

func wantError(m model, l []files.Act) api.Errno {
	_, e := m.after(l)
	return e
}

// P6.2: what acts of a kind don't ask for is of no weight, but for data that are too long.
func TestDoUnused(t *testing.T) {
	f, d, m := begun(t, 200, files.Put("a", "hi"))
	m = wantBatch(t, f, d, m, files.Act{Kind: 1, Name: "b", To: " ", Data: "x"})
	m = wantBatch(t, f, d, m, files.Act{Kind: 1, Name: "b", To: "a", Data: "y"})
	m = wantBatch(t, f, d, m, files.Act{Kind: 3, Name: "b", To: "c", Data: text(1, 32768)})
	m = wantBatch(t, f, d, m, files.Act{Kind: 2, Name: "c", To: "a", Data: "z"})
	want(t, "too long", wantError(m, []files.Act{{Kind: 2, Name: "a", Data: text(1, 32769)}}), api.ErrLong)
	wantBatch(t, f, d, m, files.Act{Kind: 2, Name: "a", Data: text(1, 32769)})
	wantBatch(t, f, d, m, files.Act{Kind: 3, Name: "none", To: "a", Data: text(1, 32769)})
}

// P6.2: the first act that has an error tells it.
func TestDoOrder(t *testing.T) {
	f, d, m := begun(t, 125, files.Put("a", "hi"))
	acts := []files.Act{{}, files.Put("", ""), files.Put("b", text(1, 32769)), files.Delete("b"), files.Rename("a", "a"), files.Put("b", text(1, 2000))}
	errors := []api.Errno{api.ErrKind, api.ErrName, api.ErrLong, api.ErrNone, api.ErrThere, api.ErrSpace}
	for i, a := range acts {
		for _, b := range acts {
			want(t, "do", f.Do(a, b), errors[i])
			want(t, "do behind one that is right", f.Do(files.Put("c", "x"), a, b), errors[i])
		}
	}
	wantModel(t, f, d, m)
	want(t, "number", f.Number(), 1)
}

// P6.2: there are at most 144 files.
func TestDoMany(t *testing.T) {
	f, d, m := begun(t, 400, many(0, 143, 1)[:71]...)
	m = wantBatch(t, f, d, m, many(71, 72, 1)...)
	want(t, "one too many", wantError(m, many(143, 2, 0)), api.ErrMany)
	wantBatch(t, f, d, m, many(143, 2, 0)...)
	m = wantBatch(t, f, d, m, many(143, 1, 0)...)
	want(t, "files", len(f.List()), 144)
	for _, l := range [][]files.Act{
		many(144, 1, 0), many(144, 1, 1), many(144, 1, 32768), many(144, 1, 32769),
		{files.Put(name(5), "x"), files.Put("new", "")}, {files.Rename(name(5), "new"), files.Put(name(5), "")}, {files.Delete(name(5)), files.Put("new", ""), files.Put(name(5), "")},
	} {
		e := wantError(m, l)
		want(t, "one too many", e == api.ErrMany || e == api.ErrLong && len(l[0].Data) == 32769, true)
		wantBatch(t, f, d, m, l...)
	}
	m = wantBatch(t, f, d, m, files.Put(name(100), text(5, 700)), files.Rename(name(7), "seven"))
	m = wantBatch(t, f, d, m, files.Delete(name(100)), files.Put("new", "x"))
	want(t, "in the place that was left", m.files["new"].place, 100)
	want(t, "files", len(f.List()), 144)
	wantAsked(t, open(t, d), m)
}

// P6.2: without room for its run a file isn't put, however many sectors are free.
func TestDoSpace(t *testing.T) {
	f, d, m := begun(t, 122)
	m = wantBatch(t, f, d, m, files.Put("a", text(1, 512)))
	want(t, "free", f.Free(), 0)
	want(t, "no sector", wantError(m, many(0, 1, 1)), api.ErrSpace)
	wantBatch(t, f, d, m, many(0, 1, 1)...)
	wantBatch(t, f, d, m, files.Put("a", text(1, 513)))
	m = wantBatch(t, f, d, m, files.Put("b", ""))
	m = wantBatch(t, f, d, m, files.Put("a", text(2, 1)))
	m = wantBatch(t, f, d, m, files.Put("a", ""), files.Put("b", "x"))
	m = wantBatch(t, f, d, m, files.Delete("b"), files.Put("c", text(3, 512)))
	wantAsked(t, open(t, d), m)
	f, d, m = begun(t, 131, many(0, 10, 1)...)
	m = wantBatch(t, f, d, m, files.Delete(name(1)), files.Delete(name(4)), files.Delete(name(6)), files.Delete(name(8)))
	want(t, "free", f.Free(), 4)
	want(t, "no run", wantError(m, many(20, 1, 513)), api.ErrSpace)
	wantBatch(t, f, d, m, many(20, 1, 513)...)
	m = wantBatch(t, f, d, m, files.Put(name(7), text(1, 1025)))
	want(t, "its own and its neighbours", m.files[name(7)].at, 127)
}

// wantPut: behind the acts the file is in that place, and its run begins there.
func wantPut(t *testing.T, name string, place, at int, l ...files.Act) {
	t.Helper()
	f, d, m := begun(t, 200, files.Put("a", text(1, 1024)), files.Put("b", text(2, 512)), files.Put("c", text(3, 1536)), files.Put("d", ""), files.Put("e", text(4, 1)))
	m = wantBatch(t, f, d, m, l...)
	want(t, "place", m.files[name].place, place)
	want(t, "first sector", m.files[name].at, at)
	wantAsked(t, open(t, d), m)
}

// P6.2: where a file comes to be: a new one in the first place of none, others in theirs; its run in the first run that is free then.
func TestDoWhere(t *testing.T) {
	wantPut(t, "e", 4, 127)
	wantPut(t, "n", 5, 128, files.Put("n", "x"))
	wantPut(t, "n", 5, 0, files.Put("n", ""))
	wantPut(t, "n", 0, 128, files.Rename("a", "n"), files.Put("n", text(1, 2000)))
	wantPut(t, "n", 1, 123, files.Delete("b"), files.Put("n", "x"))
	wantPut(t, "n", 1, 128, files.Delete("b"), files.Put("n", text(5, 513)))
	wantPut(t, "n", 1, 123, files.Delete("b"), files.Delete("c"), files.Put("n", text(5, 2048)))
	wantPut(t, "n", 5, 128, files.Put("n", "x"), files.Delete("b"))
	wantPut(t, "n", 5, 123, files.Put("b", ""), files.Put("n", "x"))
	wantPut(t, "n", 3, 0, files.Delete("d"), files.Put("n", ""))
	wantPut(t, "a", 0, 121, files.Put("a", text(6, 1024)))
	wantPut(t, "a", 0, 121, files.Put("a", "x"))
	wantPut(t, "a", 0, 128, files.Put("a", text(6, 1025)))
	wantPut(t, "a", 0, 121, files.Delete("b"), files.Put("a", text(6, 1025)))
	wantPut(t, "b", 1, 123, files.Put("b", text(6, 512)))
	wantPut(t, "b", 1, 122, files.Put("a", "x"), files.Put("b", text(2, 512)))
	wantPut(t, "c", 2, 121, files.Delete("a"), files.Delete("b"), files.Put("c", text(7, 3072)))
	wantPut(t, "d", 3, 122, files.Put("a", "x"), files.Put("d", "x"))
	wantPut(t, "a", 0, 122, files.Put("a", ""), files.Put("n", "x"), files.Put("a", "y"))
	wantPut(t, "a", 5, 121, files.Rename("a", "n"), files.Put("n", ""), files.Put("a", "x"))
	wantPut(t, "a", 0, 121, files.Delete("a"), files.Put("a", "x"))
	wantPut(t, "a", 1, 128, files.Delete("a"), files.Delete("b"), files.Put("n", text(8, 1200)), files.Put("a", text(8, 1000)))
}

// P6.2: of all sectors just those that are another one are written.
func TestDoChanged(t *testing.T) {
	data := text(1, 5120)
	other := data[:1024] + "!" + data[1025:]
	f, d, m := begun(t, 200, files.Put("a", data), files.Put("b", text(2, 513)), files.Put("c", ""))
	for _, c := range []struct {
		l []files.Act
		n int
	}{
		{nil, 0},
		{[]files.Act{files.Put("a", data)}, 0},
		{[]files.Act{files.Put("c", "")}, 0},
		{[]files.Act{files.Put("a", other), files.Put("a", data)}, 0},
		{[]files.Act{files.Rename("a", "n"), files.Rename("n", "a")}, 0},
		{[]files.Act{files.Put("n", data), files.Delete("n")}, 0},
		{[]files.Act{files.Delete("c"), files.Put("c", "")}, 0},
		{[]files.Act{files.Delete("a"), files.Put("a", data)}, 0},
		{[]files.Act{files.Put("a", other)}, 1},
		{[]files.Act{files.Put("a", data[:5000])}, 2},
		{[]files.Act{files.Put("b", text(2, 513)+"more")}, 2},
		{[]files.Act{files.Put("a", data+"more")}, 12},
		{[]files.Act{files.Rename("a", "n")}, 1},
		{[]files.Act{files.Delete("b"), files.Rename("c", "d"), files.Delete("a")}, 1},
		{[]files.Act{files.Put("n", "x"), files.Put("o", ""), files.Put("p", "y")}, 3},
		{[]files.Act{files.Put("n", text(5, 2048)), files.Put("n", text(6, 1024))}, 3},
		{[]files.Act{files.Put("n", text(5, 2048)), files.Put("o", "x"), files.Delete("n")}, 2},
		{[]files.Act{files.Put("b", text(2, 512)), files.Put("n", "\x00")}, 2},
	} {
		steps := 0
		if c.n > 0 {
			steps = 2*c.n + 6
		}
		d := newDisk(t, 200)
		m.lay(d)
		f := open(t, d)
		before := d.Steps()
		wantBatch(t, f, d, m, c.l...)
		want(t, "steps", d.Steps()-before, steps)
	}
	want(t, "what was begun with stays", f.Do(), api.OK)
	wantModel(t, f, d, m)
}

// P6.2: the table's sectors that changed are written, and no others.
func TestDoTable(t *testing.T) {
	f, d, m := begun(t, 200, many(0, 144, 0)...)
	want(t, "all of the table", d.Steps(), 2*24+6)
	for _, c := range []struct {
		l []files.Act
		n int
	}{
		{[]files.Act{files.Rename(name(0), "a"), files.Rename(name(5), "b")}, 1},
		{[]files.Act{files.Rename(name(11), "c"), files.Rename(name(12), "d")}, 2},
		{[]files.Act{files.Delete(name(143)), files.Delete(name(70)), files.Put("e", "")}, 2},
	} {
		steps := d.Steps()
		m = wantBatch(t, f, d, m, c.l...)
		want(t, "steps", d.Steps()-steps, 2*c.n+6)
	}
}

// P6.2: as many sectors as a Commit takes may change, and none more: then nothing is changed, and nothing lost.
func TestDoLarge(t *testing.T) {
	f, d, m := begun(t, 400)
	big, rest := text(1, 32768), text(2, 31*512)
	for _, l := range [][]files.Act{
		{files.Put("a", big), files.Put("b", rest+"x")},
		{files.Put("a", big), files.Put("b", big)},
		append(many(0, 95, 1), files.Put("z", text(1, 513))),
		{files.Put("a", big), files.Put("b", big), files.Rename("a", "c")},
	} {
		want(t, "do", f.Do(l...), api.ErrLarge)
		want(t, "model", m.mustAfter(l).changed(d) > 96, true)
		wantBatch(t, f, d, m, l...)
	}
	most := []files.Act{files.Put("a", big), files.Put("b", rest)}
	want(t, "model", m.mustAfter(most).changed(d), 96)
	m = wantBatch(t, f, d, m, most...)
	want(t, "number", f.Number(), 1)
	// Those that are as on the disk don't count.
	m = wantBatch(t, f, d, m, files.Put("a", big), files.Put("b", rest), files.Put("c", text(3, 95*300)))
	m = wantBatch(t, f, d, m, files.Delete("a"), files.Put("d", big), files.Put("e", text(4, 95*300)))
	// Nor do those that were put and left in the batch.
	m = wantBatch(t, f, d, m, files.Put("f", text(5, 32768)), files.Put("g", text(6, 32768)), files.Delete("f"))
	wantAsked(t, open(t, d), m)
}

func (m model) mustAfter(l []files.Act) model {
	next, _ := m.after(l)
	return next
}

// P6.2: ErrSpace and the other errors of acts come ahead of ErrLarge.
func TestDoLargeOrder(t *testing.T) {
	f, d, m := begun(t, 250)
	l := []files.Act{files.Put("a", text(1, 32768)), files.Put("b", text(2, 32768))}
	for _, c := range []struct {
		a      files.Act
		wanted api.Errno
	}{
		{files.Put("c", "x"), api.ErrLarge}, {files.Put("c", text(3, 513)), api.ErrSpace}, {files.Delete("c"), api.ErrNone}, {files.Act{}, api.ErrKind},
	} {
		want(t, "do", f.Do(append(l[:2:2], c.a)...), c.wanted)
		wantModel(t, f, d, m)
	}
}

// P6.2: without acts OK, and nothing is done, without power too.
func TestDoNothing(t *testing.T) {
	f, d, _ := begun(t, 200, files.Put("a", "hi"))
	d.Fuse(0)
	steps := d.Steps()
	want(t, "do", f.Do(), api.OK)
	want(t, "do", f.Do([]files.Act{}...), api.OK)
	want(t, "down", d.Down(), false)
	d.Barrier()
	want(t, "do", f.Do(), api.OK)
	want(t, "steps", d.Steps(), steps)
	want(t, "error", f.Err(), api.OK)
}

// P6.2, P6.3: with an error of the disk in the midst of a batch the files are lost, by that error; by their names they are as ahead.
func TestDoLost(t *testing.T) {
	l := []files.Act{files.Put("a", text(5, 600)), files.Put("b", "new"), files.Delete("c")}
	for fuse := range 2*4 + 6 {
		f, d, m := begun(t, 200, files.Put("a", "hi"), files.Put("c", ""), files.Put("e", ""))
		d.Fuse(fuse)
		want(t, "do", f.Do(l...), api.ErrPower)
		d.Crash(true, true, true, true)
		steps := d.Steps()
		for _, l := range [][]files.Act{nil, l, {{}}, {files.Put("", "")}, many(0, 100, 1)} {
			want(t, "do", f.Do(l...), api.ErrPower)
		}
		want(t, "error", f.Err(), api.ErrPower)
		for name, wanted := range map[string]api.Errno{"a": api.ErrPower, "c": api.ErrPower, "e": api.ErrPower, "b": api.ErrNone, "": api.ErrNone} {
			s, e := f.Read(name)
			want(t, "read", e, wanted)
			want(t, "read", s, "")
			want(t, "has", f.Has(name), wanted == api.ErrPower)
		}
		want(t, "list", strings.Join(f.List(), " "), "a c e")
		want(t, "free", f.Free(), m.free())
		want(t, "number", f.Number(), 1)
		want(t, "steps", d.Steps(), steps)
		want(t, "do, opened again", open(t, d).Do(l[:2]...), api.OK)
	}
}

// down is a disk with two files, whose power is gone, though no commit knows.
func down(t *testing.T) (*files.Files, *disk.Disk) {
	t.Helper()
	f, d, _ := begun(t, 400, files.Put("a", "hi"), files.Put("c", ""))
	d.Fuse(0)
	d.Barrier()
	return f, d
}

// P6.2: without power it is Commit that tells so, and by it the files are lost.
func TestDoNoPower(t *testing.T) {
	for _, l := range [][]files.Act{
		{files.Put("a", "x")},
		{files.Put("a", "\x00\x00")},
		{files.Put("b", "")},
		{files.Delete("a")},
		{files.Put("b", text(1, 32768)), files.Put("d", text(2, 31*512))},
	} {
		f, d := down(t)
		want(t, "do", f.Do(l...), api.ErrPower)
		want(t, "error", f.Err(), api.ErrPower)
		d.Crash()
		want(t, "do behind it", f.Do(files.Put("a", "x")), api.ErrPower)
		wantAsked(t, open(t, d), model{400, map[string]file{"a": {0, 121, "hi"}, "c": {1, 0, ""}}})
	}
}

// P6.2: without power the errors of acts, and ErrLarge, come first; by them nothing is lost.
func TestDoNoPowerErrors(t *testing.T) {
	f, d := down(t)
	for _, c := range []struct {
		l      []files.Act
		wanted api.Errno
	}{
		{[]files.Act{files.Put("a", "x"), {}}, api.ErrKind},
		{[]files.Act{files.Delete("a"), files.Delete("a")}, api.ErrNone},
		{many(0, 143, 0), api.ErrMany},
		{[]files.Act{files.Put("b", text(1, 32768)), files.Put("d", text(2, 32*512))}, api.ErrLarge},
		{[]files.Act{files.Rename("c", "d"), files.Rename("d", "c")}, api.OK},
	} {
		want(t, "do", f.Do(c.l...), c.wanted)
		want(t, "error", f.Err(), api.OK)
	}
	_, e := f.Read("a")
	want(t, "read", e, api.ErrPower)
	s, e := f.Read("c")
	want(t, "read of no sector", s == "" && e == api.OK, true)
	_, e = f.Read("b")
	want(t, "read of none", e, api.ErrNone)
	d.Crash()
	s, e = f.Read("a")
	want(t, "read", s == "hi" && e == api.OK, true)
	want(t, "do", f.Do(files.Put("a", "x")), api.OK)
}

// P6.3: a file's bytes, any, of any length.
func TestRead(t *testing.T) {
	f, d, m := begun(t, 400)
	for i, n := range []int{0, 1, 2, 511, 512, 513, 1023, 1024, 1025, 32767, 32768} {
		m = wantBatch(t, f, d, m, files.Put(name(i), text(i, n)))
		m = wantBatch(t, f, d, m, files.Put(name(i+20), strings.Repeat("\x00", n%2048)))
	}
	again := open(t, d)
	wantAsked(t, again, m)
	for _, name := range []string{"", "none", "f", name(0) + " ", " ", "\x00", strings.Repeat("f", 73)} {
		s, e := f.Read(name)
		want(t, "read", e, api.ErrNone)
		want(t, "read", s, "")
		want(t, "has", f.Has(name), false)
	}
}

// P6.3: the names, rising byte by byte; the list is the caller's.
func TestList(t *testing.T) {
	f, _, _ := begun(t, 200, files.Put("b", ""), files.Put("a~", "x"), files.Put("B", ""), files.Put("a", ""), files.Put("~", ""), files.Put("!", "y"), files.Put("a!", ""), files.Put("10", ""), files.Put("9", ""))
	want(t, "list", strings.Join(f.List(), " "), "! 10 9 B a a! a~ b ~")
	got := f.List()
	got[0] = "changed"
	want(t, "list again", f.List()[0], "!")
	want(t, "do", f.Do(files.Delete("a"), files.Rename("9", "z")), api.OK)
	want(t, "list behind", strings.Join(f.List(), " "), "! 10 B a! a~ b z ~")
	want(t, "has", f.Has("z") && !f.Has("9") && !f.Has("a"), true)
}

// P6.3: files have their journal's methods.
func TestPromoted(t *testing.T) {
	f, d, _ := begun(t, 200, files.Put("a", "hi"))
	want(t, "sectors", f.Sectors(), 200)
	want(t, "number", f.Number(), 1)
	want(t, "number opened again", open(t, d).Number(), 1)
	b, e := f.Journal.Read(121)
	want(t, "sector", e == api.OK && string(b[:3]) == "hi\x00", true)
}

// P6.2, P6.3: of nil ErrNil, zero.
func TestNil(t *testing.T) {
	var f *files.Files
	want(t, "do", f.Do(), api.ErrNil)
	want(t, "do", f.Do(files.Put("", "")), api.ErrNil)
	s, e := f.Read("a")
	want(t, "read", s == "" && e == api.ErrNil, true)
	want(t, "list", len(f.List()), 0)
	want(t, "has", f.Has("a"), false)
	want(t, "free", f.Free(), 0)
	want(t, "error", f.Err(), api.ErrNil)
}

// What is handed in is neither changed, nor kept.
func TestMemory(t *testing.T) {
	f, d, m := begun(t, 200)
	room := []files.Act{files.Put("a", "hi"), files.Put("b", text(1, 600)), files.Rename("a", "c"), files.Delete("b"), files.Put("d", "x")}
	before := slices.Clone(room)
	m = wantBatch(t, f, d, m, room[:3]...)
	want(t, "acts stay", slices.Equal(room, before), true)
	clear(room)
	wantModel(t, f, d, m)
	copy(room, before)
	want(t, "do", f.Do(room[:3]...), api.ErrThere)
	want(t, "acts stay", slices.Equal(room, before), true)
}
