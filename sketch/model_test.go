package sketch_test

import (
	"cmp"
	"slices"
	"testing"

	"parterre/api"
	"parterre/sketch"
)

// turnAt is what stands round a vertex, and whether it is there.
func turnAt(m api.Map, v uint32) (row, bool) {
	i := slices.Index(m.Verts, v)
	if i < 0 {
		return nil, false
	}
	return m.Rots[i], true
}

func hasEdge(m api.Map, id uint32) bool {
	return slices.ContainsFunc(m.Edges, func(x api.Edge) bool { return x.ID == id })
}

// plane tells whether each part by itself has two more vertices and faces than edges; a part's darts are those of its vertices.
func plane(m api.Map) bool {
	mark := map[uint32]uint32{}
	for _, v := range m.Verts {
		mark[v] = v
	}
	for range m.Verts {
		for _, x := range m.Edges {
			least := min(mark[x.A], mark[x.B])
			mark[x.A], mark[x.B] = least, least
		}
	}
	behind, of, sum := map[uint32]uint32{}, map[uint32]uint32{}, map[uint32]int{}
	for i, v := range m.Verts {
		sum[mark[v]] += 2
		for at, d := range m.Rots[i] {
			behind[d^1] = m.Rots[i][(at+1)%len(m.Rots[i])]
			of[d] = mark[v]
			sum[mark[v]]--
		}
	}
	for d, next := range behind {
		least := d
		for ; next != d; next = behind[next] {
			least = min(least, next)
		}
		if least == d {
			sum[of[d]] += 2
		}
	}
	for v, n := range sum {
		turn, _ := turnAt(m, v)
		if n != 4 && len(turn) > 0 {
			return false
		}
	}
	return true
}

// drawn is the map behind a step of which nothing but the face can be wrong.
func drawn(m api.Map, s api.Step) api.Map {
	turns := map[uint32]row{}
	for i, v := range m.Verts {
		turns[v] = slices.Clone(m.Rots[i])
	}
	n := api.Map{Graph: api.Graph{Verts: slices.Clone(m.Verts), Edges: slices.Clone(m.Edges)}}
	put := func(v, behind, d uint32) {
		turns[v] = slices.Insert(turns[v], slices.Index(turns[v], behind)+1, d)
	}
	switch s.Kind {
	case 1:
		n.Verts = append(n.Verts, s.ID)
		slices.Sort(n.Verts)
	case 2:
		n.Verts = slices.DeleteFunc(n.Verts, func(v uint32) bool { return v == s.ID })
	case 3:
		n.Edges = append(n.Edges, edge(s.ID, s.A, s.B))
		slices.SortFunc(n.Edges, func(x, y api.Edge) int { return cmp.Compare(x.ID, y.ID) })
		put(s.A, s.PA, 2*s.ID)
		put(s.B, s.PB, 2*s.ID+1)
	case 4:
		n.Edges = slices.DeleteFunc(n.Edges, func(x api.Edge) bool { return x.ID == s.ID })
		for v, turn := range turns {
			turns[v] = slices.DeleteFunc(turn, func(d uint32) bool { return d/2 == s.ID })
		}
	}
	for _, v := range n.Verts {
		n.Rots = append(n.Rots, normal(turns[v]))
	}
	return n
}

// faults is all that is wrong with a step, in no order; off the plane counts only where nothing else is.
func faults(m api.Map, s api.Step) map[api.Errno]bool {
	l := map[api.Errno]bool{}
	note := func(e api.Errno, is bool) {
		if is {
			l[e] = true
		}
	}
	low := func(n uint32) bool { return n == 0 || n > 1<<20 }
	turn, is := turnAt(m, s.ID)
	note(api.ErrKind, s.Kind < 1 || s.Kind > 4)
	note(api.ErrForm, s.Kind != 3 && (s.A != 0 || s.B != 0 || s.PA != 0 || s.PB != 0))
	note(api.ErrArg, low(s.ID) || s.Kind == 3 && (low(s.A) || low(s.B)))
	note(api.ErrThere, s.Kind == 1 && is || s.Kind == 3 && hasEdge(m, s.ID))
	note(api.ErrMany, s.Kind == 1 && len(m.Verts) >= 64 || s.Kind == 3 && len(m.Edges) >= 160)
	note(api.ErrNone, s.Kind == 2 && !is || s.Kind == 4 && !hasEdge(m, s.ID))
	note(api.ErrBusy, s.Kind == 2 && len(turn) > 0)
	if s.Kind != 3 {
		return l
	}
	note(api.ErrLoop, s.A == s.B)
	for _, end := range [][2]uint32{{s.A, s.PA}, {s.B, s.PB}} {
		turn, is := turnAt(m, end[0])
		note(api.ErrEnd, !is)
		note(api.ErrTurn, len(turn) > 0 && !slices.Contains(turn, end[1]) || len(turn) == 0 && end[1] != 0)
	}
	note(api.ErrFace, len(l) == 0 && !plane(drawn(m, s)))
	return l
}

// try is the map behind a step, or the first of all faults, as the chapter names them.
func try(m api.Map, s api.Step) (api.Map, api.Errno) {
	l := faults(m, s)
	for _, e := range []api.Errno{api.ErrKind, api.ErrForm, api.ErrArg, api.ErrThere, api.ErrNone, api.ErrMany, api.ErrBusy, api.ErrLoop, api.ErrEnd, api.ErrTurn, api.ErrFace} {
		if l[e] {
			return api.Map{}, e
		}
	}
	return drawn(m, s), api.OK
}

// hold holds one step against the model, and answers the map behind it.
func hold(t *testing.T, m api.Map, s api.Step) (api.Map, api.Errno) {
	t.Helper()
	wanted, e := try(m, s)
	got, n, f := sketch.Do(m, s)
	if f != e || n != 1 && e == api.OK || n != 0 && e != api.OK {
		t.Fatalf("%v of %v: %v at %d, wanted %v", s, m, f, n, e)
	}
	if e != api.OK {
		wantNone(t, "beside an error", got)
		return m, e
	}
	wantMap(t, "behind a step", got, wanted)
	if t.Failed() { // a map that may not be isn't asked whether it lies in the plane
		t.FailNow()
	}
	if !plane(got) {
		t.Fatalf("%v of %v: off the plane", s, m)
	}
	back, e := sketch.Undo(m, s)
	if e != api.OK || len(back) != 1 {
		t.Fatalf("Undo of %v: %v, %v", s, back, e)
	}
	again, e := try(got, back[0])
	want(t, "undone", e, api.OK)
	wantMap(t, "undone", again, m)
	if t.Failed() {
		t.FailNow()
	}
	return got, api.OK
}
