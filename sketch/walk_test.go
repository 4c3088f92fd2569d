package sketch_test

import (
	"math/rand/v2"
	"slices"
	"testing"

	"parterre/api"
	"parterre/sketch"
)

// walker makes steps up: most can be done, or nearly, some are of any parts.
type walker struct {
	*rand.Rand
	most  uint32 // of numbers
	grows int    // how many of ten steps draw
}

func (w walker) number() uint32 { return w.Uint32N(w.most) + 1 }

func (w walker) vertex(m api.Map) uint32 {
	if len(m.Verts) == 0 || w.IntN(20) == 0 {
		return w.number()
	}
	return m.Verts[w.IntN(len(m.Verts))]
}

func (w walker) edge(m api.Map) uint32 {
	if len(m.Edges) == 0 || w.IntN(10) == 0 {
		return w.number()
	}
	return m.Edges[w.IntN(len(m.Edges))].ID
}

// place is a dart that stands round a vertex, mostly.
func (w walker) place(m api.Map, v uint32) uint32 {
	turn, _ := turnAt(m, v)
	switch {
	case w.IntN(20) == 0:
		return w.Uint32N(2*w.most + 2)
	case len(turn) == 0 || w.IntN(20) == 0:
		return 0
	}
	return turn[w.IntN(len(turn))]
}

func (w walker) step(m api.Map) api.Step {
	if w.IntN(25) == 0 {
		few := func() uint32 {
			return []uint32{0, 1, 2, w.number(), w.number(), api.MaxID, api.MaxID + 1, top}[w.IntN(8)]
		}
		return api.Step{Kind: w.IntN(7) - 1, ID: few(), A: few(), B: few(), PA: few(), PB: few()}
	}
	grows := w.IntN(10) < w.grows
	switch {
	case grows && w.IntN(3) == 0:
		return sketch.Vertex(w.number())
	case grows && len(m.Edges) > 0 && w.IntN(4) == 0: // beside another one, which can always be done
		x := m.Edges[w.IntN(len(m.Edges))]
		turn, _ := turnAt(m, x.B)
		at := slices.Index(turn, 2*x.ID+1)
		return sketch.Link(edge(w.number(), x.A, x.B), 2*x.ID, turn[(at+len(turn)-1)%len(turn)])
	case grows:
		a, b := w.vertex(m), w.vertex(m)
		return sketch.Link(edge(w.number(), a, b), w.place(m, a), w.place(m, b))
	case w.IntN(2) == 0:
		return sketch.NoVertex(w.vertex(m))
	}
	return sketch.NoLink(w.edge(m))
}

// TestWalk: P11.1, P11.2, P11.4: long walks of steps, each held against the model; all errors come up, and maps with all vertices and edges that there may be.
func TestWalk(t *testing.T) {
	seen := map[api.Errno]int{}
	verts, links := 0, 0
	for i, c := range []struct {
		most    uint32
		grows   int
		lasting int
	}{{4, 5, 800}, {6, 6, 800}, {12, 7, 1500}, {40, 8, 1500}, {api.MaxID, 7, 800}, {400, 10, 1500}, {1000, 9, 2500}} {
		w, m := walker{chance(uint64(i)), c.most, c.grows}, api.Map{}
		for range c.lasting {
			var e api.Errno
			m, e = hold(t, m, w.step(m))
			seen[e]++
			verts, links = max(verts, len(m.Verts)), max(links, len(m.Edges))
		}
	}
	for _, e := range []api.Errno{api.OK, api.ErrKind, api.ErrForm, api.ErrArg, api.ErrThere, api.ErrMany, api.ErrNone, api.ErrBusy, api.ErrLoop, api.ErrEnd, api.ErrTurn, api.ErrFace} {
		want(t, e.Error()+" came up", seen[e] > 0, true)
	}
	want(t, "vertices", verts, api.MaxVerts)
	want(t, "edges", links, api.MaxEdges)
}

// TestRows: P11.1, P11.2, P11.4: many steps at once are as they are one by one, and so are those that undo them.
func TestRows(t *testing.T) {
	w, m := walker{chance(50), 9, 6}, api.Map{}
	failed := 0
	for range 400 {
		var l, back steps
		n, e := m, api.OK
		for range w.IntN(12) {
			s := w.step(n)
			behind, f := try(n, s)
			if f != api.OK && w.IntN(8) > 0 {
				continue
			}
			l = append(l, s)
			if f != api.OK {
				e = f
				break
			}
			one, _ := sketch.Undo(n, s)
			back, n = append(back, one...), behind
		}
		wanted := len(l)
		if e != api.OK {
			failed++
			n, wanted, back = api.Map{}, len(l)-1, nil
			l = append(l, sketch.Vertex(0), api.Step{Kind: 9}, sketch.Vertex(7))
		}
		slices.Reverse(back)
		got, at, f := sketch.Do(m, l...)
		undone, g := sketch.Undo(m, l...)
		want(t, "error", f, e)
		want(t, "Undo's error", g, e)
		want(t, "steps", at, wanted)
		wantMap(t, "behind all", got, n)
		wantRow(t, "undo", undone, back)
		if e == api.OK {
			again, _, _ := sketch.Do(got, undone...)
			wantMap(t, "undone", again, m)
			m = got
		}
	}
	want(t, "some failed", failed > 30, true)
}
