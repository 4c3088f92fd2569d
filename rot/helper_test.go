package rot_test

import (
	"cmp"
	"math"
	"math/rand/v2"
	"slices"
	"testing"

	"parterre/api"
	"parterre/rot"
)

type (
	row   = []uint32
	edges = []api.Edge
)

const top = math.MaxUint32

// want: a test fails, if something is another thing than was wanted.
func want[T comparable](t *testing.T, what string, got, wanted T) {
	t.Helper()
	if got != wanted {
		t.Errorf("%s: %v, wanted %v", what, got, wanted)
	}
}

func wantRow[T comparable](t *testing.T, what string, got, wanted []T) {
	t.Helper()
	if !slices.Equal(got, wanted) {
		t.Errorf("%s: %v, wanted %v", what, got, wanted)
	}
}

func wantRows(t *testing.T, what string, got, wanted []row) {
	t.Helper()
	if !slices.EqualFunc(got, wanted, slices.Equal[row]) {
		t.Errorf("%s: %v, wanted %v", what, got, wanted)
	}
}

// wantMap goes past Same, which is looked at itself.
func wantMap(t *testing.T, what string, got, wanted api.Map) {
	t.Helper()
	wantRow(t, what+": vertices", got.Verts, wanted.Verts)
	wantRow(t, what+": edges", got.Edges, wanted.Edges)
	wantRows(t, what+": turns", got.Rots, wanted.Rots)
}

func edge(id, a, b uint32) api.Edge { return api.Edge{ID: id, A: a, B: b} }

// upTo is the numbers from 1 on.
func upTo(n int) row {
	var l row
	for i := range n {
		l = append(l, uint32(i+1))
	}
	return l
}

// mapOf is a map told as it is, for what may not be, too.
func mapOf(verts row, l edges, turns ...row) api.Map {
	return api.Map{Graph: api.Graph{Verts: verts, Edges: l}, Rots: turns}
}

// normal is the turn from its least dart on, found by other means than the program's.
func normal(l row) row {
	first := 0
	for i, d := range l {
		if d < l[first] {
			first = i
		}
	}
	var told row
	for i := range l {
		told = append(told, l[(first+i)%len(l)])
	}
	return told
}

// all is a graph of so many vertices with an edge between each two.
func all(n int) api.Graph {
	g := api.Graph{Verts: upTo(n)}
	for b := range n {
		for a := range b {
			g.Edges = append(g.Edges, edge(uint32(len(g.Edges)+1), uint32(a+1), uint32(b+1)))
		}
	}
	return g
}

// threes is three vertices and three, all of the ones with all of the others.
func threes() api.Graph {
	g := api.Graph{Verts: upTo(6)}
	for i := range uint32(9) {
		g.Edges = append(g.Edges, edge(i+1, i/3+1, i%3+4))
	}
	return g
}

// bundle is two vertices, and so many edges between them, to and fro.
func bundle(n int) api.Graph {
	g := api.Graph{Verts: row{3, 8}}
	for i := range uint32(n) {
		g.Edges = append(g.Edges, edge(i*i+2, 3+i%2*5, 8-i%2*5))
	}
	return g
}

// beside is two graphs side by side: the numbers of the second are moved on.
func beside(a, b api.Graph, by uint32) api.Graph {
	g := api.Graph{Verts: slices.Clone(a.Verts), Edges: slices.Clone(a.Edges)}
	for _, v := range b.Verts {
		g.Verts = append(g.Verts, v+by)
	}
	for _, x := range b.Edges {
		g.Edges = append(g.Edges, edge(x.ID+by, x.A+by, x.B+by))
	}
	return g
}

// dartsAt is the darts at a vertex, rising.
func dartsAt(g api.Graph, v uint32) row {
	var l row
	for _, x := range g.Edges {
		if x.A == v {
			l = append(l, 2*x.ID)
		} else if x.B == v {
			l = append(l, 2*x.ID+1)
		}
	}
	return l
}

// orders is all orders of darts, the first of which stays.
func orders(l row) []row {
	if len(l) < 3 {
		return []row{l}
	}
	var some []row
	for _, told := range orders(l[:len(l)-1]) {
		for at := 1; at <= len(told); at++ {
			some = append(some, slices.Insert(slices.Clone(told), at, l[len(l)-1]))
		}
	}
	return some
}

// drawings is all maps of a graph.
func drawings(g api.Graph) []api.Map {
	l := []api.Map{{Graph: g}}
	for _, v := range g.Verts {
		var longer []api.Map
		for _, m := range l {
			for _, turn := range orders(dartsAt(g, v)) {
				longer = append(longer, api.Map{Graph: g, Rots: append(m.Rots[:len(m.Rots):len(m.Rots)], turn)})
			}
		}
		l = longer
	}
	return l
}

// chance is a row of numbers that is the same each time.
func chance(seed uint64) *rand.Rand { return rand.New(rand.NewPCG(seed, 10)) }

// unlike is n numbers from 1 to most, no two alike, rising.
func unlike(by *rand.Rand, n, most int) row {
	var l row
	for len(l) < n {
		if v := uint32(1 + by.IntN(most)); !slices.Contains(l, v) {
			l = append(l, v)
		}
	}
	slices.Sort(l)
	return l
}

// some is a map of any turns.
func some(by *rand.Rand, verts, links, most int) api.Map {
	m := mapOf(unlike(by, verts, most), nil)
	if verts > 1 {
		for _, id := range unlike(by, links, most) {
			a := by.IntN(verts)
			b := (a + 1 + by.IntN(verts-1)) % verts
			m.Edges = append(m.Edges, edge(id, m.Verts[a], m.Verts[b]))
		}
	}
	for _, v := range m.Verts {
		turn := dartsAt(m.Graph, v)
		by.Shuffle(len(turn), func(i, j int) { turn[i], turn[j] = turn[j], turn[i] })
		m.Rots = append(m.Rots, normal(turn))
	}
	return m
}

// straight is a map of points, with straight edges between them: round each stand the darts as their ways turn.
func straight(points map[uint32][2]int, l ...api.Edge) api.Map {
	var verts row
	for v := range points {
		verts = append(verts, v)
	}
	slices.Sort(verts)
	m := mapOf(verts, l)
	for _, v := range verts {
		turn := dartsAt(m.Graph, v)
		way := func(d uint32) float64 {
			i := slices.IndexFunc(l, func(x api.Edge) bool { return x.ID == d/2 })
			from, to := points[v], points[l[i].A+l[i].B-v]
			return math.Atan2(float64(to[1]-from[1]), float64(to[0]-from[0]))
		}
		slices.SortFunc(turn, func(a, b uint32) int { return cmp.Compare(way(a), way(b)) })
		m.Rots = append(m.Rots, normal(turn))
	}
	return m
}

// field is 64 vertices, eight by eight, with 160 edges that don't cross: all that a map may have.
func field() api.Map {
	points := map[uint32][2]int{}
	var l edges
	link := func(a, b int) { l = append(l, edge(uint32(api.MaxID-159+len(l)), uint32(a*a+1), uint32(b*b+1))) }
	for i := range 64 {
		points[uint32(i*i+1)] = [2]int{i % 8, i / 8}
	}
	for i := range 64 {
		x, y := i%8, i/8
		if x < 7 {
			link(i, i+1)
		}
		if y < 7 {
			link(i+8, i)
		}
		if x < 7 && y < 7 && i > 0 {
			link(i, i+9)
		}
	}
	return straight(points, l...)
}

// maps are maps that may be: small ones, those at the limits, in the plane and off it, and some of all sizes between.
func maps() []api.Map {
	l := []api.Map{
		{}, mapOf(row{}, edges{}, []row{}...), mapOf(row{1}, nil, nil), mapOf(row{api.MaxID}, nil, row{}), mapOf(row{1, 2}, nil, nil, nil),
		mapOf(row{1, 2}, edges{edge(1, 1, 2)}, row{2}, row{3}), mapOf(row{1, 2}, edges{edge(api.MaxID, 2, 1)}, row{2*api.MaxID + 1}, row{2 * api.MaxID}),
		mapOf(row{1, 2, 3}, edges{edge(1, 1, 3)}, row{2}, nil, row{3}),
		rot.Of(api.Graph{Verts: upTo(64)}, nil), field(),
	}
	for _, g := range []api.Graph{bundle(3), all(4), beside(bundle(3), bundle(2), 100), {Verts: upTo(4), Edges: edges{edge(1, 1, 2), edge(2, 2, 3), edge(3, 3, 1), edge(5, 1, 2)}}} {
		l = append(l, drawings(g)...)
	}
	by := chance(1)
	for i := range 120 {
		verts, links := by.IntN(12), by.IntN(14)
		if i%5 == 0 {
			verts, links = by.IntN(65), by.IntN(161)
		}
		l = append(l, some(by, verts, links, []int{160, 1000, api.MaxID}[i%3]))
	}
	return append(l, some(by, 64, 160, 160), some(by, 2, 160, api.MaxID))
}
