package sketch_test

import (
	"slices"
	"testing"

	"parterre/api"
	"parterre/sketch"
)

// P11.1: what isn't told by a step of its kind is 0.
func TestForm(t *testing.T) {
	m := mapOf(row{1, 2, 5}, edges{edge(1, 1, 2), edge(5, 2, 1)}, row{2, 11}, row{3, 10}, nil)
	right := []api.Step{sketch.Vertex(7), sketch.NoVertex(5), sketch.NoLink(5), sketch.NoLink(1)}
	wrong := []api.Step{sketch.Vertex(0), sketch.Vertex(5), sketch.Vertex(top), sketch.NoVertex(0), sketch.NoVertex(1), sketch.NoVertex(7), sketch.NoLink(0), sketch.NoLink(7), sketch.NoLink(api.MaxID + 1)}
	for i, s := range slices.Concat(right, wrong) {
		if _, e := hold(t, m, s); i < len(right) {
			want(t, "as it should be", e, api.OK)
		}
		for _, more := range []api.Step{{A: 1}, {B: 1}, {PA: 1}, {PB: 1}, {A: top}, {B: top}, {PA: top}, {PB: top}, {A: 2, B: 1, PA: 3, PB: 2}} {
			more.Kind, more.ID = s.Kind, s.ID
			_, e := hold(t, m, more)
			want(t, "something else isn't 0", e, api.ErrForm)
		}
		for _, kind := range []int{0, 5, -1, 256 + s.Kind, s.Kind - 256} {
			s.Kind, s.A = kind, 1
			_, e := hold(t, m, s)
			want(t, "no kind", e, api.ErrKind)
		}
	}
}

// P11.1: of several faults of one step the first is told, as the chapter names them.
func TestOrder(t *testing.T) {
	link := func(id, a, b, pa, pb uint32) api.Step { return sketch.Link(edge(id, a, b), pa, pb) }
	full, few := thick(64, 160), thick(3, 6)
	for _, c := range []struct {
		what   string
		m      api.Map
		s      api.Step
		wanted api.Errno
	}{
		{"kind, form, number", few, api.Step{Kind: 5, ID: 0, A: top, PA: 1}, api.ErrKind},
		{"form, number", few, api.Step{Kind: api.AddVertex, ID: 0, PB: 1}, api.ErrForm},
		{"form, there", few, api.Step{Kind: api.AddVertex, ID: 1, A: 1}, api.ErrForm},
		{"form, many", full, api.Step{Kind: api.AddVertex, ID: 65, B: 1}, api.ErrForm},
		{"form, none", few, api.Step{Kind: api.DropVertex, ID: 9, B: 1}, api.ErrForm},
		{"form, busy", few, api.Step{Kind: api.DropVertex, ID: 1, PA: 1}, api.ErrForm},
		{"form, no edge", few, api.Step{Kind: api.DropEdge, ID: 7, PB: 1}, api.ErrForm},
		{"number, many", full, sketch.Vertex(0), api.ErrArg},
		{"number too high, many", full, sketch.Vertex(api.MaxID + 1), api.ErrArg},
		{"number, none", few, sketch.NoVertex(0), api.ErrArg},
		{"number, no edge", few, sketch.NoLink(api.MaxID + 1), api.ErrArg},
		{"there, many", full, sketch.Vertex(64), api.ErrThere},
		{"many", full, sketch.Vertex(65), api.ErrMany},
		{"number of the edge, all else", full, link(0, 1, 1, 0, 0), api.ErrArg},
		{"number of A, there, many, end, turn", full, link(1, 0, 2, 0, 0), api.ErrArg},
		{"number of B, there, many, end, turn", full, link(1, 2, 0, 0, 0), api.ErrArg},
		{"numbers of both ends, there, many, loop, end", full, link(1, 0, 0, 0, 0), api.ErrArg},
		{"A too high, end", few, link(9, api.MaxID+1, 2, 0, 3), api.ErrArg},
		{"B too high, end", few, link(9, 1, api.MaxID+1, 2, 0), api.ErrArg},
		{"there, many, loop", full, link(1, 1, 1, 2, 2), api.ErrThere},
		{"there, many, loop, end", full, link(160, 99, 99, 0, 0), api.ErrThere},
		{"there, many, end, turn", full, link(160, 1, 99, 0, 0), api.ErrThere},
		{"there, many, turn", full, link(160, 1, 2, 0, 0), api.ErrThere},
		{"there, many, face", full, link(160, 1, 2, 2, 3), api.ErrThere},
		{"there, loop", few, link(1, 1, 1, 2, 2), api.ErrThere},
		{"there, end", few, link(1, 1, 99, 2, 2), api.ErrThere},
		{"there, turn", few, link(6, 1, 2, 0, 0), api.ErrThere},
		{"many, loop", full, link(161, 1, 1, 2, 2), api.ErrMany},
		{"many, loop, end", full, link(161, 99, 99, 0, 0), api.ErrMany},
		{"many, end, turn", full, link(161, 1, 99, 0, 0), api.ErrMany},
		{"many, turn", full, link(161, 1, 2, 0, 0), api.ErrMany},
		{"many, face", full, link(161, 1, 2, 2, 3), api.ErrMany},
		{"many", full, link(161, 1, 2, 2, 128), api.ErrMany},
		{"loop, end, turn", few, link(7, 99, 99, 2, 3), api.ErrLoop},
		{"loop, turn", few, link(7, 1, 1, 0, 3), api.ErrLoop},
		{"loop", few, link(7, 1, 1, 2, 2), api.ErrLoop},
		{"loop at two places", few, link(7, 1, 1, 2, 6), api.ErrLoop},
		{"no A, turn of B", few, link(7, 99, 1, 0, 0), api.ErrEnd},
		{"no A, turn of A", few, link(7, 99, 1, 2, 2), api.ErrEnd},
		{"no B, turn of A", few, link(7, 1, 99, 0, 0), api.ErrEnd},
		{"no B, turn of B", few, link(7, 1, 99, 2, 2), api.ErrEnd},
		{"turn of A, face", few, link(7, 1, 2, 3, 3), api.ErrTurn},
		{"turn of B, face", few, link(7, 1, 2, 2, 2), api.ErrTurn},
		{"face", few, link(7, 1, 2, 2, 3), api.ErrFace},
		{"face and a vertex away", few, link(7, 1, 3, 2, 5), api.ErrFace},
		{"none", few, link(7, 1, 2, 2, 7), api.OK},
	} {
		_, e := hold(t, c.m, c.s)
		want(t, c.what, e, c.wanted)
	}
}

// P11.1: numbers from 1 to 2^20, of vertices, of edges, of their ends; darts aren't numbers.
func TestNumbers(t *testing.T) {
	m := mapOf(row{1, 2, api.MaxID - 1, api.MaxID}, nil, nil, nil, nil, nil)
	for _, n := range (row{0, 1, 2, 3, api.MaxID - 2, api.MaxID - 1, api.MaxID, api.MaxID + 1, 1 << 21, 1 << 31, 1<<31 + 1, top - 1, top}) {
		wanted := api.ErrArg
		if n >= 1 && n <= 1<<20 {
			wanted = api.OK
		}
		_, e := hold(t, api.Map{}, sketch.Vertex(n))
		want(t, "a vertex", e, wanted)
		k, e := hold(t, m, sketch.Link(edge(n, 1, api.MaxID), 0, 0))
		want(t, "an edge", e, wanted)
		if _, f := hold(t, k, sketch.Link(edge(5, api.MaxID, 2), 2*n+1, 0)); e == api.OK {
			want(t, "behind its end", f, api.OK)
		}
		_, e = hold(t, k, sketch.NoLink(n))
		want(t, "no edge", e, wanted)
		hold(t, m, sketch.NoVertex(n))
		hold(t, m, sketch.Link(edge(7, n, 2), 0, 0))
		hold(t, m, sketch.Link(edge(7, 2, n), 0, 0))
	}
}

// P11.1: 64 vertices and 160 edges, and not one more, but where one went.
func TestMost(t *testing.T) {
	m := api.Map{}
	for v := range uint32(64) {
		var e api.Errno
		m, e = hold(t, m, sketch.Vertex(640-v*10))
		want(t, "a vertex", e, api.OK)
	}
	_, e := hold(t, m, sketch.Vertex(5))
	want(t, "one more vertex", e, api.ErrMany)
	_, n, e := sketch.Do(m, sketch.NoVertex(330), sketch.Vertex(5), sketch.Vertex(6))
	want(t, "for another one", n == 2 && e == api.ErrMany, true)
	for i := range uint32(160) {
		s := sketch.Link(edge(1000-i, 10, 640), 2*(1001-i), 2001)
		if i == 0 {
			s.PA, s.PB = 0, 0
		}
		m, e = hold(t, m, s)
		want(t, "an edge", e, api.OK)
	}
	want(t, "all edges", len(m.Edges), 160)
	_, e = hold(t, m, sketch.Link(edge(5, 20, 640), 0, 2001))
	want(t, "one more edge", e, api.ErrMany)
	_, n, e = sketch.Do(m, sketch.NoLink(900), sketch.Link(edge(5, 20, 640), 0, 2001), sketch.Link(edge(6, 30, 640), 0, 2001))
	want(t, "for another edge", n == 2 && e == api.ErrMany, true)
}

// P11.1, P11.4: between all vertices of small maps, behind all darts, just those edges that leave the map in the plane.
func TestEachPlace(t *testing.T) {
	counts := map[api.Errno]int{}
	for _, m := range []api.Map{
		alone(2), ring(), thick(2, 2), thick(2, 3), thick(3, 5), thick(4, 3),
		mapOf(row{1, 2, 3, 4}, edges{edge(1, 1, 2), edge(2, 3, 4)}, row{2}, row{3}, row{4}, row{5}),
		mapOf(row{1, 2, 3, 4}, edges{edge(1, 1, 2), edge(2, 1, 3), edge(3, 4, 1)}, row{2, 7, 4}, row{3}, row{5}, row{6}),
		mapOf(row{1, 2, 3, 4}, append(ring().Edges, edge(4, 4, 2)), row{2, 7}, row{3, 4, 9}, row{5, 6}, row{8}),
	} {
		want(t, "it lies in the plane", plane(m), true)
		for at := range 5 * 5 * 13 * 13 {
			a, b, pa, pb := at%5, at/5%5, at/25%13, at/325
			_, e := hold(t, m, sketch.Link(edge(6, uint32(a), uint32(b)), uint32(pa), uint32(pb)))
			counts[e]++
		}
	}
	for _, e := range []api.Errno{api.OK, api.ErrArg, api.ErrLoop, api.ErrEnd, api.ErrTurn, api.ErrFace} {
		want(t, e.Error()+" came up", counts[e] > 0, true)
	}
}
