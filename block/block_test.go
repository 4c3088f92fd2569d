package block_test

import (
	"slices"
	"testing"

	"parterre/api"
	"parterre/block"
	"parterre/graph"
)

// P13.1: the blocks, each its edges, rising, by their first ones.
func TestBlocks(t *testing.T) {
	for _, c := range []struct {
		what   string
		g      api.Graph
		wanted []row
	}{
		{"nothing", api.Graph{}, nil},
		{"vertices alone", of(row{1, 2, 3}), nil},
		{"an edge", of(nil, edges{edge(7, 1, 2)}), []row{{7}}},
		{"an edge, others alone", of(row{1, 5, 9}, edges{edge(7, 5, 1)}), []row{{7}}},
		{"two of the same ends", of(nil, edges{edge(7, 1, 2), edge(9, 1, 2)}), []row{{7, 9}}},
		{"two to and fro", of(nil, edges{edge(7, 1, 2), edge(9, 2, 1)}), []row{{7, 9}}},
		{"many", of(nil, along(1, 1, 2, 1, 2, 1, 2, 1)), []row{{1, 2, 3, 4, 5, 6}}},
		{"a path", of(nil, along(1, 1, 2, 3, 4)), []row{{1}, {2}, {3}}},
		{"a path with one of two", of(nil, along(1, 1, 2, 3, 4), edges{edge(9, 3, 2)}), []row{{1}, {2, 9}, {3}}},
		{"a star", of(nil, edges{edge(3, 9, 1), edge(4, 2, 9), edge(5, 9, 3)}), []row{{3}, {4}, {5}}},
		{"a ring", of(nil, along(1, 1, 2, 3, 1)), []row{{1, 2, 3}}},
		{"a ring of four and its chord", of(nil, along(1, 1, 2, 3, 4, 1), edges{edge(5, 1, 3)}), []row{{1, 2, 3, 4, 5}}},
		{"two rings with a vertex together", of(nil, along(1, 1, 2, 3, 1), along(4, 3, 4, 5, 3)), []row{{1, 2, 3}, {4, 5, 6}}},
		{"the same, in turn", of(nil, edges{edge(1, 1, 2), edge(2, 3, 4), edge(3, 2, 3), edge(4, 4, 5), edge(5, 3, 1), edge(6, 5, 3)}), []row{{1, 3, 5}, {2, 4, 6}}},
		{"one ring's edges round the other's", of(nil, edges{edge(1, 1, 2), edge(5, 2, 3), edge(6, 3, 1)}, along(2, 3, 4, 5, 3)), []row{{1, 5, 6}, {2, 3, 4}}},
		{"three rings at one vertex", of(nil, along(1, 9, 1, 2, 9), along(4, 9, 3, 4, 9), along(7, 9, 5, 6, 9)), []row{{1, 2, 3}, {4, 5, 6}, {7, 8, 9}}},
		{"rings with an edge together", of(nil, along(1, 1, 2, 3, 1), along(4, 2, 4, 3)), []row{{1, 2, 3, 4, 5}}},
		{"rings with a path together", of(nil, along(1, 1, 2, 3, 4, 1), along(5, 1, 5, 6, 3)), []row{{1, 2, 3, 4, 5, 6, 7}}},
		{"rings with an edge between them", of(nil, along(1, 1, 2, 3, 1), along(4, 3, 4), along(5, 4, 5, 6, 4)), []row{{1, 2, 3}, {4}, {5, 6, 7}}},
		{"rings with a ring between them", of(nil, along(1, 1, 2, 3, 1), along(4, 3, 4, 3), along(6, 4, 5, 6, 4)), []row{{1, 2, 3}, {4, 5}, {6, 7, 8}}},
		{"rings with two ways between them", of(nil, along(1, 1, 2, 3, 1), along(4, 4, 5, 6, 4), edges{edge(8, 1, 4), edge(7, 2, 5)}), []row{{1, 2, 3, 4, 5, 6, 7, 8}}},
		{"rings in a ring, by vertices", of(nil, along(1, 1, 2, 3, 1), along(4, 3, 4, 5, 3), along(7, 5, 6, 1, 5)), []row{{1, 2, 3, 4, 5, 6, 7, 8, 9}}},
		{"parts, in turn", of(nil, edges{edge(1, 1, 2), edge(2, 4, 5), edge(3, 2, 1), edge(4, 5, 6), edge(5, 7, 8)}), []row{{1, 3}, {2}, {4}, {5}}},
		{"the last edge joins", of(nil, along(1, 1, 2, 3, 4, 5, 6), edges{edge(99, 6, 1)}), []row{{1, 2, 3, 4, 5, 99}}},
		{"the first edge joins", of(nil, along(5, 1, 2, 3, 4, 5, 6), edges{edge(1, 2, 5)}), []row{{1, 6, 7, 8}, {5}, {9}}},
		{"the highest numbers", of(nil, along(api.MaxID-2, api.MaxID, 1, api.MaxID-1, api.MaxID), edges{edge(1, 1, 2)}), []row{{1}, {api.MaxID - 2, api.MaxID - 1, api.MaxID}}},
		{"all with all", all(18), []row{upTo(153)}},
	} {
		wantRows(t, c.what, numbers(block.Blocks(c.g)), c.wanted)
		if len(c.g.Verts) <= 8 {
			wantRows(t, c.what+": by rings", numbers(byRings(c.g)), c.wanted)
		}
		wantRows(t, c.what+": by ways", numbers(byWays(c.g)), c.wanted)
	}
}

func numbers(blocks []edges) []row {
	var all []row
	for _, b := range blocks {
		var l row
		for _, x := range b {
			l = append(l, x.ID)
		}
		all = append(all, l)
	}
	return all
}

// marked is edges by marks that are alike where two belong together.
func marked(g api.Graph, marks []int) []edges {
	var all []edges
	for i := range g.Edges {
		var l edges
		for j, x := range g.Edges {
			if marks[j] == marks[i] && !slices.Contains(marks[:i], marks[i]) {
				l = append(l, x)
			}
		}
		if len(l) > 0 {
			all = append(all, l)
		}
	}
	return all
}

// alike makes all marks that are one of two the lower one.
func alike(marks []int, a, b int) {
	least, other := min(marks[a], marks[b]), max(marks[a], marks[b])
	for i := range marks {
		if marks[i] == other {
			marks[i] = least
		}
	}
}

func places(g api.Graph) []int {
	var l []int
	for i := range g.Edges {
		l = append(l, i)
	}
	return l
}

// isRing tells whether edges lie on one ring and are all of it: each vertex has two, and they hang together.
func isRing(l edges) bool {
	degree := map[uint32]int{}
	for _, x := range l {
		degree[x.A]++
		degree[x.B]++
	}
	for _, n := range degree {
		if n != 2 {
			return false
		}
	}
	return len(l) > 1 && len(graph.Parts(of(nil, l))) == 1
}

// byRings is the blocks, found by looking at all sets of edges.
func byRings(g api.Graph) []edges {
	marks := places(g)
	for set := range 1 << len(g.Edges) {
		ring := subset(g, set).Edges
		if !isRing(ring) {
			continue
		}
		for _, x := range ring {
			alike(marks, graph.Edge(g, ring[0].ID), graph.Edge(g, x.ID))
		}
	}
	return marked(g, marks)
}

// byWays is the blocks, found at each vertex: two edges there are in one, if there is a way between their other ends past the vertex.
func byWays(g api.Graph) []edges {
	marks := places(g)
	for _, v := range g.Verts {
		parts := graph.Parts(graph.Keep(g, func(x api.Edge) bool { return x.A != v && x.B != v }))
		var at []int
		for i, x := range g.Edges {
			if x.A == v || x.B == v {
				at = append(at, i)
			}
		}
		for _, i := range at {
			for _, j := range at {
				a, b := g.Edges[i].A+g.Edges[i].B-v, g.Edges[j].A+g.Edges[j].B-v
				if slices.ContainsFunc(parts, func(part []uint32) bool { return slices.Contains(part, a) && slices.Contains(part, b) }) {
					alike(marks, i, j)
				}
			}
		}
	}
	return marked(g, marks)
}

// P13.1: all graphs of five vertices without bundles, and of three with bundles up to three, by all their rings.
func TestBlocksSmall(t *testing.T) {
	five := all(5)
	for set := range 1 << len(five.Edges) {
		g := subset(five, set)
		wantRows(t, "five", block.Blocks(g), byRings(g))
	}
	thick := of(nil, edges{edge(1, 1, 2), edge(2, 3, 1), edge(3, 2, 3), edge(4, 3, 2), edge(5, 1, 3), edge(6, 2, 1), edge(7, 1, 2), edge(8, 2, 3), edge(9, 1, 3)})
	for set := range 1 << len(thick.Edges) {
		g := subset(thick, set)
		wantRows(t, "thick", block.Blocks(g), byRings(g))
	}
	by := chance(2)
	for range 150 {
		g := some(by, 2+by.IntN(8), by.IntN(11), 1+by.IntN(7), 50)
		wantRows(t, "some", block.Blocks(g), byRings(g))
	}
}

// P13.1, P13.3: of greater graphs, too; each edge is in one block, and two blocks have at most one vertex together.
func TestBlocksFollow(t *testing.T) {
	l := graphs()
	by := chance(3)
	for range 300 {
		l = append(l, some(by, 2+by.IntN(63), by.IntN(161), 1+by.IntN(3), api.MaxID))
	}
	for _, g := range l {
		blocks := block.Blocks(g)
		wantRows(t, "by ways", blocks, byWays(g))
		in := slices.Concat(blocks...)
		slices.SortFunc(in, func(x, y api.Edge) int { return int(x.ID) - int(y.ID) })
		wantRow(t, "each edge in one", in, g.Edges)
		for i, a := range blocks {
			want(t, "not empty", len(a) > 0, true)
			for _, b := range blocks[:i] {
				want(t, "by their first ones", b[0].ID < a[0].ID, true)
				together := 0
				for _, v := range of(nil, a).Verts {
					if slices.Contains(of(nil, b).Verts, v) {
						together++
					}
				}
				want(t, "at most one vertex together", together < 2, true)
			}
		}
	}
}

// 31 rings of three round one vertex, and as many in a row, each with a vertex of the one ahead; and one edge more, by which the row is a ring.
func TestBlocksMany(t *testing.T) {
	var star, chain edges
	for i := range uint32(31) {
		star = append(star, along(api.MaxID-93+3*i, 64, 2*i+1, 2*i+2, 64)...)
		chain = append(chain, along(3*i+1, 2*i+1, 2*i+2, 2*i+3, 2*i+1)...)
	}
	for _, l := range []edges{star, chain} {
		blocks := block.Blocks(of(nil, l))
		want(t, "as many", len(blocks), 31)
		for i, b := range blocks {
			wantRow(t, "a ring", b, l[3*i:3*i+3])
		}
	}
	joined := append(slices.Clone(chain), edge(500, 1, 63))
	wantRows(t, "joined", block.Blocks(of(nil, joined)), []edges{joined})
}
