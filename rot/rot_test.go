package rot_test

import (
	"slices"
	"testing"

	"parterre/api"
	"parterre/rot"
)

// P10.2: the turn in which a dart stands; none, where it isn't there.
func TestTurn(t *testing.T) {
	m := mapOf(row{1, 2, 3, 9}, edges{edge(1, 1, 2), edge(2, 2, 3), edge(3, 2, 1), edge(7, 2, 3)}, row{2, 7}, row{3, 14, 4, 6}, row{5, 15}, nil)
	for _, c := range []struct {
		d      uint32
		wanted row
	}{
		{2, row{2, 7}}, {7, row{2, 7}}, {3, row{3, 14, 4, 6}}, {4, row{3, 14, 4, 6}}, {6, row{3, 14, 4, 6}}, {14, row{3, 14, 4, 6}}, {5, row{5, 15}}, {15, row{5, 15}}, {0, nil}, {1, nil}, {8, nil}, {9, nil}, {13, nil}, {16, nil}, {top, nil},
	} {
		wantRow(t, "turn", rot.Turn(m, c.d), c.wanted)
	}
	want(t, "of nothing", len(rot.Turn(api.Map{}, 0))+len(rot.Turn(api.Map{}, 2)), 0)
	for _, m := range maps() {
		in := map[uint32]row{}
		for _, turn := range m.Rots {
			for _, d := range turn {
				in[d] = turn
				wantRow(t, "turn", rot.Turn(m, d), turn)
			}
		}
		for d := range uint32(330) {
			wantRow(t, "turn", rot.Turn(m, d), in[d])
		}
		for _, d := range (row{2*api.MaxID + 2, 2*api.MaxID + 3, top}) {
			want(t, "of none", len(rot.Turn(m, d)), 0)
		}
	}
}

// P10.2: some of the edges, the others' darts taken out of the turns.
func TestKeep(t *testing.T) {
	m := mapOf(row{1, 2, 3}, edges{edge(1, 1, 2), edge(2, 2, 3), edge(3, 3, 1), edge(4, 2, 1)}, row{2, 9, 7}, row{3, 8, 4}, row{5, 6})
	for _, c := range []struct {
		what   string
		so     func(api.Edge) bool
		wanted api.Map
	}{
		{"all", func(api.Edge) bool { return true }, m},
		{"none", func(api.Edge) bool { return false }, mapOf(row{1, 2, 3}, nil, nil, nil, nil)},
		{"all but the first", func(x api.Edge) bool { return x.ID != 1 }, mapOf(row{1, 2, 3}, edges{edge(2, 2, 3), edge(3, 3, 1), edge(4, 2, 1)}, row{7, 9}, row{4, 8}, row{5, 6})},
		{"all but the last", func(x api.Edge) bool { return x.ID != 4 }, mapOf(row{1, 2, 3}, edges{edge(1, 1, 2), edge(2, 2, 3), edge(3, 3, 1)}, row{2, 7}, row{3, 4}, row{5, 6})},
		{"one", func(x api.Edge) bool { return x.ID == 2 }, mapOf(row{1, 2, 3}, edges{edge(2, 2, 3)}, nil, row{4}, row{5})},
		{"by A", func(x api.Edge) bool { return x.A == 2 }, mapOf(row{1, 2, 3}, edges{edge(2, 2, 3), edge(4, 2, 1)}, row{9}, row{4, 8}, row{5})},
		{"by B", func(x api.Edge) bool { return x.B == 1 }, mapOf(row{1, 2, 3}, edges{edge(3, 3, 1), edge(4, 2, 1)}, row{7, 9}, row{8}, row{6})},
	} {
		wantMap(t, c.what, rot.Keep(m, c.so), c.wanted)
	}
	by := chance(3)
	for _, m := range maps() {
		wantMap(t, "all", rot.Keep(m, func(api.Edge) bool { return true }), m)
		stay := map[api.Edge]bool{}
		darts := map[uint32]bool{}
		wanted := mapOf(m.Verts, nil)
		for _, x := range m.Edges {
			if by.IntN(2) == 0 {
				stay[x], darts[2*x.ID], darts[2*x.ID+1] = true, true, true
				wanted.Edges = append(wanted.Edges, x)
			}
		}
		for _, turn := range m.Rots {
			var left row
			for _, d := range turn {
				if darts[d] {
					left = append(left, d)
				}
			}
			wanted.Rots = append(wanted.Rots, normal(left))
		}
		got := rot.Keep(m, func(x api.Edge) bool { return stay[x] })
		wantMap(t, "keep", got, wanted)
		want(t, "it may be", rot.Check(got), api.OK)
	}
}

// P10.2: each turn the other way round.
func TestMirror(t *testing.T) {
	wantMap(t, "nothing", rot.Mirror(api.Map{}), api.Map{})
	wantMap(t, "two alone", rot.Mirror(mapOf(row{1, 2}, nil, nil, nil)), mapOf(row{1, 2}, nil, nil, nil))
	wantMap(t, "a ring", rot.Mirror(ring()), ring())
	m := mapOf(row{1, 2}, edges{edge(1, 1, 2), edge(2, 2, 1), edge(3, 1, 2), edge(4, 1, 2)}, row{2, 5, 6, 8}, row{3, 9, 4, 7})
	wantMap(t, "four edges", rot.Mirror(m), mapOf(m.Verts, m.Edges, row{2, 8, 6, 5}, row{3, 7, 4, 9}))
	for _, m := range maps() {
		wanted := mapOf(m.Verts, m.Edges)
		for _, turn := range m.Rots {
			back := slices.Clone(turn)
			slices.Reverse(back)
			wanted.Rots = append(wanted.Rots, normal(back))
		}
		wantMap(t, "mirror", rot.Mirror(m), wanted)
		wantMap(t, "mirrored again", rot.Mirror(rot.Mirror(m)), m)
	}
}

// P10.2: the same graph and the same turns.
func TestSame(t *testing.T) {
	three := edges{edge(1, 1, 2), edge(2, 1, 2), edge(3, 1, 2)}
	m := mapOf(row{1, 2, 3}, three, row{2, 4, 6}, row{3, 7, 5}, nil)
	for _, c := range []struct {
		what   string
		n      api.Map
		wanted bool
	}{
		{"itself", m, true},
		{"told again", mapOf(row{1, 2, 3}, slices.Clone(three), row{2, 4, 6}, row{3, 7, 5}, row{}), true},
		{"nothing", api.Map{}, false},
		{"the first turn", mapOf(row{1, 2, 3}, three, row{2, 6, 4}, row{3, 7, 5}, nil), false},
		{"the second turn", mapOf(row{1, 2, 3}, three, row{2, 4, 6}, row{3, 5, 7}, nil), false},
		{"mirrored", rot.Mirror(m), false},
		{"a vertex less", mapOf(row{1, 2}, three, row{2, 4, 6}, row{3, 7, 5}), false},
		{"another vertex alone", mapOf(row{1, 2, 4}, three, row{2, 4, 6}, row{3, 7, 5}, nil), false},
		{"an edge turned about", mapOf(row{1, 2, 3}, edges{edge(1, 2, 1), edge(2, 1, 2), edge(3, 1, 2)}, row{3, 4, 6}, row{2, 7, 5}, nil), false},
		{"an edge less", mapOf(row{1, 2, 3}, three[:2], row{2, 4}, row{3, 5}, nil), false},
		{"an edge elsewhere", mapOf(row{1, 2, 3}, edges{edge(1, 1, 2), edge(2, 1, 2), edge(3, 1, 3)}, row{2, 4, 6}, row{3, 5}, row{7}), false},
	} {
		want(t, c.what, rot.Same(m, c.n), c.wanted)
		want(t, c.what+", the other way", rot.Same(c.n, m), c.wanted)
	}
	want(t, "nil and empty", rot.Same(api.Map{}, mapOf(row{}, edges{}, []row{}...)), true)
	l := drawings(beside(all(4), bundle(3), 20))
	for i, a := range l {
		for j, b := range l {
			want(t, "same", rot.Same(a, b), i == j)
		}
	}
}

// P10.2: a map of its own.
func TestClone(t *testing.T) {
	for _, m := range maps() {
		n := rot.Clone(m)
		wantMap(t, "clone", n, m)
		want(t, "the same", rot.Same(n, m) && rot.Check(n) == api.OK, true)
		o := rot.Clone(n)
		scribble(n)
		wantMap(t, "it stays", o, m)
		want(t, "it may be", rot.Check(m), api.OK)
	}
}

// scribble writes all over a map, its spare room too.
func scribble(m api.Map) {
	fill(m.Verts, 77)
	fill(m.Edges, edge(77, 77, 77))
	for _, turn := range m.Rots {
		fill(turn, 77)
	}
	fill(m.Rots, row{77})
}

func fill[T any](l []T, what T) {
	l = l[:cap(l)]
	for i := range l {
		l[i] = what
	}
}

// roomy is a map with spare room behind all of its rows, and what is kept of all that.
func roomy() (api.Map, func(t *testing.T)) {
	verts := row{1, 2, 3, 8, 8}
	l := edges{edge(1, 1, 2), edge(2, 2, 3), edge(3, 3, 1), edge(4, 2, 1), edge(8, 8, 8)}
	turns := []row{{2, 9, 7, 8, 8}, {3, 4, 8, 8, 8}, {5, 6, 8, 8}, {8}, {8, 8}}
	m := mapOf(verts[:3], l[:4], turns[0][:3], turns[1][:3], turns[2][:2])
	rows := append(m.Rots, turns[3:]...)
	m.Rots = rows[:3]
	return m, func(t *testing.T) {
		t.Helper()
		wantRow(t, "vertices", verts, row{1, 2, 3, 8, 8})
		wantRow(t, "edges", l, edges{edge(1, 1, 2), edge(2, 2, 3), edge(3, 3, 1), edge(4, 2, 1), edge(8, 8, 8)})
		wantRows(t, "turns", turns, []row{{2, 9, 7, 8, 8}, {3, 4, 8, 8, 8}, {5, 6, 8, 8}, {8}, {8, 8}})
		wantRows(t, "rows", rows, []row{{2, 9, 7}, {3, 4, 8}, {5, 6}, {8}, {8, 8}})
	}
}

// What is handed in isn't changed, spare room included; what is answered is new memory, each row of it.
func TestMemory(t *testing.T) {
	m, stays := roomy()
	want(t, "it may be", rot.Check(m), api.OK)
	even := func(x api.Edge) bool { return x.ID%2 == 0 }
	always := func(api.Edge) bool { return true }
	shared := row{9, 2, 7, 7}
	turns := map[uint32][]uint32{1: shared[:3], 2: shared[:3], 3: m.Rots[2]}
	of := rot.Of(m.Graph, turns)
	answers := []api.Map{of, rot.Keep(m, even), rot.Keep(m, always), rot.Clone(m), rot.Mirror(m)}
	fill(of.Rots[0], 66)
	wantRow(t, "the other's turn", of.Rots[1], row{2, 7, 9})
	rows := append(rot.Faces(m), rot.Face(m, 4), rot.Turn(m, 4))
	rot.Right(m)
	rot.Genus(m)
	rot.Same(m, m)
	wanted := []row{{2, 4, 6}, {3, 9}, {5, 8, 7}, {2, 4, 6}, {3, 4, 8}}
	want(t, "so many rows", len(rows), len(wanted))
	for i, r := range rows {
		wantRow(t, "a row behind the others", r, wanted[i])
		fill(r, 77)
	}
	kept := answers[1]
	for i, turn := range kept.Rots {
		wantRow(t, "a turn behind the others", turn, []row{{9}, {4, 8}, {5}}[i])
		fill(turn, 77)
	}
	for _, a := range answers {
		scribble(a)
	}
	stays(t)
	wantRow(t, "the turns handed in", shared, row{9, 2, 7, 7})
	want(t, "as many turns handed in", len(turns), 3)
}

// What was answered stays, when what it was made of is changed.
func TestKept(t *testing.T) {
	m, _ := roomy()
	turns := map[uint32][]uint32{1: {9, 2, 7}}
	l := []api.Map{rot.Clone(m), rot.Keep(m, func(api.Edge) bool { return true }), rot.Mirror(rot.Mirror(m)), rot.Of(m.Graph, turns)}
	scribble(m)
	fill(turns[1], 77)
	clear(turns)
	m, _ = roomy()
	for _, n := range l[:3] {
		wantMap(t, "it stays", n, m)
	}
	wantMap(t, "it stays", l[3], mapOf(m.Verts, m.Edges, row{2, 7, 9}, nil, nil))
}

// Maps that may not be: nothing is promised of them but that the calls end.
func TestOthersEnd(t *testing.T) {
	one := edges{edge(1, 1, 2)}
	for _, m := range []api.Map{
		mapOf(row{1, 2}, one), mapOf(nil, one, row{2}, row{3}), mapOf(row{1, 2}, nil, row{2, 2, 3}, row{3, 9, 9, 4}),
		mapOf(row{1, 2}, edges{edge(1, 1, 2), edge(2, 7, 7)}, row{2, 4, 2, 5, 2}, row{3, 2, 3, 4, 4}, row{0, top}), mapOf(row{2, 1, 1, 0}, edges{edge(3, 1, 1), edge(3, 2, 9), edge(0, 0, 0)}, row{6, 7, 7, 6}, row{0, 1, 0}),
		mapOf(upTo(3000), make(edges, 3000), make([]row, 4000)...),
	} {
		rot.Check(m)
		rot.Right(m)
		rot.Faces(m)
		rot.Genus(m)
		for d := range uint32(12) {
			rot.Face(m, d)
			rot.Turn(m, d)
		}
		rot.Face(m, top)
		rot.Mirror(rot.Keep(m, func(x api.Edge) bool { return x.ID == 1 }))
		want(t, "clone", rot.Same(m, rot.Clone(m)), true)
	}
}
