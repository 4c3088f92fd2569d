package sketch_test

import (
	"encoding/binary"
	"math"
	"testing"

	"parterre/api"
	"parterre/sketch"
	"parterre/wire"
)

// P11.2: the steps.
func TestSteps(t *testing.T) {
	for _, n := range (row{0, 1, 2, api.MaxID, api.MaxID + 1, top}) {
		want(t, "a vertex", sketch.Vertex(n), api.Step{Kind: 1, ID: n})
		want(t, "no vertex", sketch.NoVertex(n), api.Step{Kind: 2, ID: n})
		want(t, "no edge", sketch.NoLink(n), api.Step{Kind: 4, ID: n})
		want(t, "an edge's number", sketch.Link(edge(n, 3, 4), 5, 6), api.Step{Kind: 3, ID: n, A: 3, B: 4, PA: 5, PB: 6})
		want(t, "an edge's A", sketch.Link(edge(2, n, 4), 5, 6), api.Step{Kind: 3, ID: 2, A: n, B: 4, PA: 5, PB: 6})
		want(t, "an edge's B", sketch.Link(edge(2, 3, n), 5, 6), api.Step{Kind: 3, ID: 2, A: 3, B: n, PA: 5, PB: 6})
		want(t, "an edge's PA", sketch.Link(edge(2, 3, 4), n, 6), api.Step{Kind: 3, ID: 2, A: 3, B: 4, PA: n, PB: 6})
		want(t, "an edge's PB", sketch.Link(edge(2, 3, 4), 5, n), api.Step{Kind: 3, ID: 2, A: 3, B: 4, PA: 5, PB: n})
	}
}

// P11.2: the steps that turn some about, told out.
func TestUndo(t *testing.T) {
	for _, c := range []struct {
		what   string
		from   api.Map
		l      steps
		wanted steps
	}{
		{"a vertex", api.Map{}, steps{sketch.Vertex(5)}, steps{sketch.NoVertex(5)}},
		{"no vertex", alone(5), steps{sketch.NoVertex(5)}, steps{sketch.Vertex(5)}},
		{"an edge", alone(2), steps{sketch.Link(edge(7, 2, 1), 0, 0)}, steps{sketch.NoLink(7)}},
		{"no edge, alone", thick(2, 1), steps{sketch.NoLink(1)}, steps{sketch.Link(edge(1, 1, 2), 0, 0)}},
		{"no edge, the first", thick(2, 3), steps{sketch.NoLink(1)}, steps{sketch.Link(edge(1, 1, 2), 6, 5)}},
		{"no edge, the last", thick(2, 3), steps{sketch.NoLink(3)}, steps{sketch.Link(edge(3, 1, 2), 4, 3)}},
		{"no edge, to and fro", ring(), steps{sketch.NoLink(3)}, steps{sketch.Link(edge(3, 3, 1), 5, 2)}},
		{"no edge, alone at B", thick(3, 2), steps{sketch.NoLink(2)}, steps{sketch.Link(edge(2, 2, 3), 3, 0)}},
		{"no edge, alone at A", thick(3, 2), steps{sketch.NoLink(1)}, steps{sketch.Link(edge(1, 1, 2), 0, 4)}},
		{"in the other order", ring(), steps{sketch.NoLink(2), sketch.NoLink(1), sketch.NoVertex(2), sketch.Vertex(9)}, steps{sketch.NoVertex(9), sketch.Vertex(2), sketch.Link(edge(1, 1, 2), 7, 0), sketch.Link(edge(2, 2, 3), 3, 6)}},
		{"to and fro", alone(1), steps{sketch.Vertex(2), sketch.NoVertex(2)}, steps{sketch.Vertex(2), sketch.NoVertex(2)}},
	} {
		back, e := sketch.Undo(c.from, c.l...)
		wantRow(t, c.what, back, c.wanted)
		want(t, c.what, e, api.OK)
		m, _, _ := sketch.Do(c.from, c.l...)
		m, _, e = sketch.Do(m, back...)
		want(t, c.what+": done again", e, api.OK)
		wantMap(t, c.what+": done again", m, c.from)
	}
}

// laid is a row of steps as bytes, told by other means than the program's.
func laid(l ...api.Step) string {
	b := binary.BigEndian.AppendUint32(nil, uint32(len(l)))
	for _, s := range l {
		b = append(b, byte(s.Kind))
		for _, n := range (row{s.ID, s.A, s.B, s.PA, s.PB}) {
			b = binary.BigEndian.AppendUint32(b, n)
		}
	}
	return string(b)
}

// some is steps of any parts and of the four kinds.
func some(n int) steps {
	by, l := chance(7), steps(nil)
	for range n {
		l = append(l, api.Step{Kind: by.IntN(4) + 1, ID: by.Uint32(), A: by.Uint32(), B: by.Uint32(), PA: by.Uint32(), PB: by.Uint32()})
	}
	return l
}

// P11.3: a row of steps as bytes, behind others; the kind modulo 256.
func TestLay(t *testing.T) {
	want(t, "none", sketch.Lay(wire.Out{}).String(), laid())
	want(t, "one", sketch.Lay(wire.Out{}, api.Step{Kind: 3, ID: 0x01020304, A: 2, B: top, PA: 0x80, PB: 0x100}).String(), "\x00\x00\x00\x01\x03\x01\x02\x03\x04\x00\x00\x00\x02\xff\xff\xff\xff\x00\x00\x00\x80\x00\x00\x01\x00")
	for _, n := range []int{1, 2, 64, 300} {
		want(t, "some", sketch.Lay(wire.Out{}, some(n)...).String(), laid(some(n)...))
	}
	o := wire.Out{}.Text("ahead")
	want(t, "behind", sketch.Lay(o, some(2)...).Byte(9).String(), o.String()+laid(some(2)...)+"\x09")
	want(t, "ahead", o.String(), "\x00\x00\x00\x05ahead")
	for kind, b := range map[int]byte{0: 0, 5: 5, 255: 255, 256: 0, 257: 1, -1: 255, -255: 1, 1<<32 + 4: 4, math.MinInt: 0, math.MaxInt: 255} {
		want(t, "kind", sketch.Lay(wire.Out{}, api.Step{Kind: kind}).String()[4], b)
	}
}

// wantTake: so much is taken off bytes, so many are left behind it, and that is the error.
func wantTake(t *testing.T, what, bytes string, most int, wanted steps, left int, e api.Errno) {
	t.Helper()
	i := wire.Of(bytes)
	wantRow(t, what, sketch.Take(i, most), wanted)
	want(t, what+": left", i.Left(), left)
	want(t, what+": error", i.Err(), e)
}

// P11.3, P11.4: what was laid is taken as it was, of at most so many.
func TestTake(t *testing.T) {
	for _, n := range []int{0, 1, 2, 64, 300} {
		l := some(n)
		bytes := sketch.Lay(wire.Out{}, l...).String()
		wantTake(t, "just so many", bytes, n, l, 0, api.OK)
		wantTake(t, "fewer than so many", bytes+"xy", n+1, l, 2, api.OK)
		wantTake(t, "any number", bytes, math.MaxInt, l, 0, api.OK)
		if n > 0 {
			wantTake(t, "more than so many", bytes, n-1, nil, len(bytes)-4, api.ErrMany)
			wantTake(t, "none allowed", bytes, 0, nil, len(bytes)-4, api.ErrMany)
		}
		below := map[bool]api.Errno{true: api.OK, false: api.ErrMany}[n == 0]
		wantTake(t, "below none allowed", bytes, -1, nil, len(bytes)-4, below)
		wantTake(t, "far below none allowed", bytes, math.MinInt, nil, len(bytes)-4, below)
	}
	long := laid(make(steps, 3)...)
	wantTake(t, "many come ahead of kinds", long, 2, nil, len(long)-4, api.ErrMany)
	wantTake(t, "more than there are bytes", "\xff\xff\xff\xff"+laid(some(1)...)[4:], math.MaxInt, nil, 0, api.ErrShort)
}

// P11.3: a kind that is none is told behind the whole step, and nothing is taken behind that.
func TestTakeKind(t *testing.T) {
	for kind := range 256 {
		l := some(3)
		l[1].Kind = kind
		bytes := laid(l...)
		if kind >= 1 && kind <= 4 {
			wantTake(t, "a kind", bytes, 3, l, 0, api.OK)
			continue
		}
		wantTake(t, "no kind", bytes, 3, nil, 21, api.ErrKind)
		for n := range 21 {
			wantTake(t, "no kind, too short", bytes[:4+21+n], 3, nil, max(0, n-1)%4, api.ErrShort)
		}
	}
}

// P11.3: bytes that end too early at each place.
func TestTakeShort(t *testing.T) {
	bytes := laid(some(4)...)
	for n := range len(bytes) {
		i := wire.Of(bytes[:n])
		want(t, "none", sketch.Take(i, 4) == nil, true)
		want(t, "too early", i.Err(), api.ErrShort)
	}
}

// P11.3: an In that has an error keeps it, and a nil one has its own.
func TestTakeFailed(t *testing.T) {
	bytes := laid(some(2)...)
	i := wire.Of(bytes)
	i.Fail(api.ErrHead)
	want(t, "none", sketch.Take(i, 2) == nil, true)
	want(t, "its error", i.Err(), api.ErrHead)
	want(t, "nothing taken", i.Left(), len(bytes))
	want(t, "of nil none", sketch.Take(nil, 2) == nil, true)
}

// What is laid isn't changed, nor kept; what is taken is new each time.
func TestLayMemory(t *testing.T) {
	l := append(some(3), api.Step{Kind: 77})
	o := sketch.Lay(wire.Out{}, l[:3]...)
	wantRow(t, "steps", l, append(some(3), api.Step{Kind: 77}))
	fill(l, api.Step{})
	want(t, "not kept", o.String(), laid(some(3)...))
	a, b := sketch.Take(wire.Of(o.String()), 3), sketch.Take(wire.Of(o.String()), 3)
	fill(a, api.Step{})
	wantRow(t, "of its own", b, some(3))
}
