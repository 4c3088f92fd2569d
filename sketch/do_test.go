package sketch_test

import (
	"math"
	"testing"

	"parterre/api"
	"parterre/sketch"
)

// P11.1: no step leaves the map as it is.
func TestDoNothing(t *testing.T) {
	for _, m := range []api.Map{{}, mapOf(row{}, edges{}, []row{}...), ring(), alone(64), thick(64, 160), thick(2, 160)} {
		got, n, e := sketch.Do(m)
		wantMap(t, "no step", got, m)
		want(t, "no step: how many", n, 0)
		want(t, "no step: error", e, api.OK)
		back, e := sketch.Undo(m)
		want(t, "no step: undo", len(back), 0)
		want(t, "no step: undo's error", e, api.OK)
	}
}

// P11.1: the chapter's example, and others, told out.
func TestDo(t *testing.T) {
	for _, c := range []struct {
		what   string
		from   api.Map
		l      steps
		wanted api.Map
	}{
		{"an edge", api.Map{}, steps{sketch.Vertex(1), sketch.Vertex(2), sketch.Link(edge(1, 1, 2), 0, 0)}, mapOf(row{1, 2}, edges{edge(1, 1, 2)}, row{2}, row{3})},
		{"vertices falling", api.Map{}, steps{sketch.Vertex(9), sketch.Vertex(3), sketch.Vertex(5)}, mapOf(row{3, 5, 9}, nil, nil, nil, nil)},
		{"a vertex amid", ring(), steps{sketch.NoLink(2), sketch.NoLink(1), sketch.NoVertex(2)}, mapOf(row{1, 3}, edges{edge(3, 3, 1)}, row{7}, row{6})},
		{"an edge for another", ring(), steps{sketch.NoLink(2), sketch.Link(edge(2, 3, 2), 6, 3)}, mapOf(row{1, 2, 3}, edges{edge(1, 1, 2), edge(2, 3, 2), edge(3, 3, 1)}, row{2, 7}, row{3, 5}, row{4, 6})},
		{"behind the first", ring(), steps{sketch.Link(edge(9, 1, 2), 2, 4)}, mapOf(row{1, 2, 3}, append(ring().Edges, edge(9, 1, 2)), row{2, 18, 7}, row{3, 4, 19}, row{5, 6})},
		{"behind the last", ring(), steps{sketch.Link(edge(9, 1, 2), 7, 3)}, mapOf(row{1, 2, 3}, append(ring().Edges, edge(9, 1, 2)), row{2, 7, 18}, row{3, 19, 4}, row{5, 6})},
		{"the least dart", mapOf(row{1, 2}, edges{edge(7, 1, 2)}, row{14}, row{15}), steps{sketch.Link(edge(3, 2, 1), 15, 14)}, mapOf(row{1, 2}, edges{edge(3, 2, 1), edge(7, 1, 2)}, row{7, 14}, row{6, 15})},
		{"to one alone", mapOf(row{1, 2, 4}, edges{edge(7, 1, 2)}, row{14}, row{15}, nil), steps{sketch.Link(edge(8, 4, 2), 0, 15)}, mapOf(row{1, 2, 4}, edges{edge(7, 1, 2), edge(8, 4, 2)}, row{14}, row{15, 17}, row{16})},
		{"two parts made one", mapOf(row{1, 2, 3, 4}, edges{edge(1, 1, 2), edge(2, 3, 4)}, row{2}, row{3}, row{4}, row{5}), steps{sketch.Link(edge(3, 4, 1), 5, 2)}, mapOf(row{1, 2, 3, 4}, edges{edge(1, 1, 2), edge(2, 3, 4), edge(3, 4, 1)}, row{2, 7}, row{3}, row{4}, row{5, 6})},
		{"to and fro", ring(), steps{sketch.Vertex(4), sketch.NoVertex(4), sketch.NoLink(3), sketch.Link(edge(3, 3, 1), 5, 2)}, ring()},
		{"all out", ring(), steps{sketch.NoLink(1), sketch.NoLink(2), sketch.NoLink(3), sketch.NoVertex(1), sketch.NoVertex(2), sketch.NoVertex(3)}, api.Map{}},
	} {
		got, n, e := sketch.Do(c.from, c.l...)
		want(t, c.what, e, api.OK)
		want(t, c.what+": how many", n, len(c.l))
		wantMap(t, c.what, got, c.wanted)
	}
}

// P11.1: each error by itself, at the place of the first step that can't be done.
func TestDoErrors(t *testing.T) {
	link := func(id, a, b, pa, pb uint32) api.Step { return sketch.Link(edge(id, a, b), pa, pb) }
	// A ring, one more vertex at 1, that hangs within it, an edge beside, a vertex alone.
	m := mapOf(row{1, 2, 3, 4, 5, 6, 7}, edges{edge(1, 1, 2), edge(2, 2, 3), edge(3, 3, 1), edge(4, 1, 4), edge(5, 5, 6)}, row{2, 8, 7}, row{3, 4}, row{5, 6}, row{9}, row{10}, row{11}, nil)
	for _, c := range []struct {
		what   string
		s      api.Step
		wanted api.Errno
	}{
		{"no kind", api.Step{ID: 9}, api.ErrKind}, {"kind 5", api.Step{Kind: 5, ID: 9}, api.ErrKind}, {"kind -1", api.Step{Kind: -1, ID: 9}, api.ErrKind},
		{"kind 257", api.Step{Kind: 257, ID: 9}, api.ErrKind}, {"kind 2^32+1", api.Step{Kind: 1<<32 + 1, ID: 9}, api.ErrKind}, {"the least kind", api.Step{Kind: math.MinInt, ID: 9}, api.ErrKind}, {"the greatest kind", api.Step{Kind: math.MaxInt, ID: 9}, api.ErrKind},
		{"vertex there", sketch.Vertex(1), api.ErrThere}, {"vertex there, the last", sketch.Vertex(7), api.ErrThere}, {"another vertex", sketch.Vertex(8), api.OK}, {"a vertex of an edge's dart", sketch.Vertex(10), api.OK},
		{"no such vertex", sketch.NoVertex(8), api.ErrNone}, {"busy", sketch.NoVertex(1), api.ErrBusy}, {"busy with one", sketch.NoVertex(4), api.ErrBusy}, {"busy at B", sketch.NoVertex(6), api.ErrBusy}, {"alone", sketch.NoVertex(7), api.OK},
		{"no such edge", sketch.NoLink(6), api.ErrNone}, {"an edge of a vertex's number", sketch.NoLink(7), api.ErrNone}, {"an edge out", sketch.NoLink(5), api.OK},
		{"edge there", link(5, 1, 7, 2, 0), api.ErrThere}, {"edge there, as it is", link(5, 5, 6, 10, 11), api.ErrThere}, {"a loop", link(9, 1, 1, 2, 8), api.ErrLoop}, {"a loop alone", link(9, 7, 7, 0, 0), api.ErrLoop}, {"a loop at none", link(9, 9, 9, 0, 0), api.ErrLoop},
		{"no A", link(9, 8, 1, 0, 2), api.ErrEnd}, {"no B", link(9, 1, 8, 2, 0), api.ErrEnd}, {"no ends", link(9, 8, 9, 0, 0), api.ErrEnd},
		{"PA 0", link(9, 1, 7, 0, 0), api.ErrTurn}, {"PB 0", link(9, 7, 1, 0, 0), api.ErrTurn}, {"both 0", link(9, 1, 2, 0, 0), api.ErrTurn},
		{"PA not 0", link(9, 7, 1, 2, 2), api.ErrTurn}, {"PB not 0", link(9, 1, 7, 2, 2), api.ErrTurn}, {"PA of B", link(9, 1, 2, 3, 3), api.ErrTurn}, {"PB of A", link(9, 1, 2, 2, 2), api.ErrTurn}, {"both turned about", link(9, 1, 2, 3, 2), api.ErrTurn},
		{"PA of none", link(9, 1, 2, 12, 3), api.ErrTurn}, {"PB of none", link(9, 1, 2, 2, 13), api.ErrTurn}, {"PA 1", link(9, 1, 2, 1, 3), api.ErrTurn}, {"PA its own", link(9, 7, 1, 18, 2), api.ErrTurn}, {"PB its own", link(9, 1, 7, 2, 19), api.ErrTurn}, {"PA at the end of numbers", link(9, 1, 2, top, 3), api.ErrTurn}, {"PB at the end of numbers", link(9, 1, 7, 2, top), api.ErrTurn},
		{"from within to without", link(9, 4, 2, 9, 3), api.ErrFace}, {"from without to within", link(9, 2, 4, 3, 9), api.ErrFace}, {"across, from without", link(9, 1, 2, 7, 4), api.ErrFace}, {"across, from within", link(9, 1, 3, 2, 5), api.ErrFace}, {"across, from the other place within", link(9, 1, 2, 8, 3), api.ErrFace},
		{"within", link(9, 4, 2, 9, 4), api.OK}, {"within, at the first place", link(9, 1, 2, 2, 4), api.OK}, {"within, at the second place", link(9, 1, 2, 8, 4), api.OK}, {"within, to the same vertex", link(9, 1, 4, 2, 9), api.OK}, {"without", link(9, 1, 2, 7, 3), api.OK},
		{"to another part", link(9, 1, 5, 2, 10), api.OK}, {"to another part, from any place", link(9, 1, 6, 7, 11), api.OK}, {"to one alone", link(9, 7, 3, 0, 5), api.OK},
	} {
		_, e := try(m, c.s)
		want(t, c.what+": the model", e, c.wanted)
		hold(t, m, c.s)
		got, n, e := sketch.Do(m, sketch.Vertex(100), sketch.NoVertex(100), c.s, sketch.Vertex(0))
		wanted, place := c.wanted, 2
		if wanted == api.OK {
			wanted, place = api.ErrArg, 3
		}
		want(t, c.what, e, wanted)
		want(t, c.what+": place", n, place)
		wantNone(t, c.what, got)
		back, e := sketch.Undo(m, sketch.Vertex(100), c.s, sketch.Vertex(0))
		want(t, c.what+": undo", e, wanted)
		want(t, c.what+": undo's steps", len(back), 0)
	}
}
