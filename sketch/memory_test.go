package sketch_test

import (
	"slices"
	"testing"

	"parterre/api"
	"parterre/sketch"
)

// rows are steps that can be done to the ring, and some that can't.
func rows() []steps {
	return []steps{
		nil,
		{sketch.Vertex(4)},
		{sketch.Vertex(4), sketch.NoVertex(4)},
		{sketch.NoLink(2)},
		{sketch.NoLink(1), sketch.NoLink(2), sketch.NoVertex(2)},
		{sketch.Link(edge(9, 1, 2), 2, 4), sketch.Vertex(6), sketch.Link(edge(4, 6, 1), 0, 18)},
		{sketch.Vertex(4), sketch.NoLink(9)},
		{sketch.Link(edge(9, 1, 2), 2, 4), sketch.Link(edge(9, 1, 2), 2, 4)},
		{sketch.NoVertex(1)},
	}
}

// What is handed in isn't changed, spare room included, nor kept; what is answered is new memory.
func TestMemory(t *testing.T) {
	for _, l := range rows() {
		m, stays := roomy()
		given := append(slices.Clone(l), api.Step{Kind: 77})
		got, n, e := sketch.Do(m, given[:len(l)]...)
		again, _, _ := sketch.Do(m, l...)
		back, _ := sketch.Undo(m, given[:len(l)]...)
		stays(t)
		wantRow(t, "steps", given, append(slices.Clone(l), api.Step{Kind: 77}))
		wanted, _, _ := sketch.Do(ring(), l...)
		wantMap(t, "as of another", got, wanted)
		scribble(got)
		fill(back, api.Step{})
		stays(t)
		wantRow(t, "steps", given[:len(l)], l)
		wantMap(t, "as ahead", again, wanted)
		undone, _ := sketch.Undo(m, l...)
		scribble(m)
		fill(given, api.Step{})
		wantMap(t, "not kept", again, wanted)
		want(t, "as many", n == len(l) || e != api.OK, true)
		if e == api.OK {
			m, _, e = sketch.Do(again, undone...)
			want(t, "undone", e, api.OK)
			wantMap(t, "undone", m, ring())
		}
	}
}

// Rows of one answer share nothing: each is filled, and the others stay.
func TestApart(t *testing.T) {
	for _, l := range rows()[:6] {
		m, _, _ := sketch.Do(ring(), l...)
		wanted, _, _ := sketch.Do(ring(), l...)
		for i, turn := range m.Rots {
			want(t, "a turn behind the others", slices.Equal(turn, wanted.Rots[i]), true)
			fill(turn, 99)
		}
		wantRow(t, "vertices behind the turns", m.Verts, wanted.Verts)
		fill(m.Verts, 98)
		wantRow(t, "edges behind all", m.Edges, wanted.Edges)
	}
}

// Maps that may not be: nothing is promised of them but that the calls end.
func TestOthersEnd(t *testing.T) {
	one := edges{edge(1, 1, 2)}
	for _, m := range []api.Map{
		mapOf(row{1, 2}, one), mapOf(nil, one, row{2}, row{3}), mapOf(row{1}, nil, row{2}, row{3}, row{9}), mapOf(row{1, 2}, nil, row{2, 2, 3}, row{3, 9, 9, 4}),
		mapOf(row{1, 2}, edges{edge(1, 1, 2), edge(2, 7, 7)}, row{2, 4, 2, 5, 2}, row{3, 2, 3, 4, 4}, row{0, top}),
		mapOf(row{2, 1, 1, 0}, edges{edge(3, 1, 1), edge(3, 2, 9), edge(0, 0, 0)}, row{6, 7, 7, 6}, row{0, 1, 0}),
		mapOf(row{1, 2}, edges{edge(1, 1, 2), edge(2, 1, 2), edge(3, 1, 2)}, row{2, 4, 6}, row{3, 5, 7}),
		mapOf(make(row, 200), make(edges, 300), make([]row, 400)...),
	} {
		for a := range uint32(4) {
			for b := range uint32(8) {
				for _, s := range (steps{sketch.Vertex(a), sketch.NoVertex(a), sketch.NoLink(a), sketch.Link(edge(9, 1, 2), a, b), sketch.Link(edge(a, 2, 1), b, 0), sketch.Link(edge(9, a, b), 2, 3)}) {
					sketch.Do(m, s, sketch.NoLink(1), s)
					sketch.Undo(m, s, sketch.NoLink(1), s)
				}
			}
		}
	}
}
