package plane_test

import (
	"maps"
	"slices"
	"testing"

	"parterre/graph"
	"parterre/plane"
	"parterre/rot"
)

type turns = map[uint32]map[uint32]uint32

func wantTurns(t *testing.T, what string, got, wanted turns) {
	t.Helper()
	if !maps.EqualFunc(got, wanted, maps.Equal[map[uint32]uint32]) {
		t.Errorf("%s: %v, wanted %v", what, got, wanted)
	}
}

// P14.2: who stands behind whom, round each vertex.
func TestAround(t *testing.T) {
	for _, c := range []struct {
		what   string
		faces  []row
		wanted turns
	}{
		{"nothing", nil, turns{}},
		{"no rings", []row{}, turns{}},
		{"an empty ring", []row{{}}, turns{}},
		{"empty rings", []row{nil, {}, nil}, turns{}},
		{"one", []row{{5}}, turns{5: {5: 5}}},
		{"0", []row{{0}}, turns{0: {0: 0}}},
		{"two", []row{{5, 7}}, turns{5: {7: 7}, 7: {5: 5}}},
		{"two, the other way", []row{{7, 5}}, turns{5: {7: 7}, 7: {5: 5}}},
		{"three", []row{{1, 2, 3}}, turns{1: {3: 2}, 2: {1: 3}, 3: {2: 1}}},
		{"three, back", []row{{3, 2, 1}}, turns{1: {2: 3}, 2: {3: 1}, 3: {1: 2}}},
		{"three, both ways", []row{{1, 2, 3}, {3, 2, 1}}, turns{1: {3: 2, 2: 3}, 2: {1: 3, 3: 1}, 3: {2: 1, 1: 2}}},
		{"two rings apart", []row{{1, 2}, {3, 4}}, turns{1: {2: 2}, 2: {1: 1}, 3: {4: 4}, 4: {3: 3}}},
		{"empty rings between", []row{nil, {1, 2}, {}, {3}, nil}, turns{1: {2: 2}, 2: {1: 1}, 3: {3: 3}}},
		{"the ends of numbers", []row{{0, top, 9}}, turns{0: {9: top}, top: {0: 9}, 9: {top: 0}}},
		{"one twice", []row{{5, 5}}, turns{5: {5: 5}}},
		{"one three times", []row{{5, 5, 5}}, turns{5: {5: 5}}},
		{"one twice, and another", []row{{5, 5, 7}}, turns{5: {7: 5, 5: 7}, 7: {5: 5}}},
		{"one twice, apart", []row{{1, 2, 1, 3}}, turns{1: {3: 2, 2: 3}, 2: {1: 1}, 3: {1: 1}}},
		{"a path, there and back", []row{{1, 2, 3, 2}}, turns{1: {2: 2}, 2: {1: 3, 3: 1}, 3: {2: 2}}},
		{"a pair twice in a ring", []row{{1, 2, 3, 1, 2, 4}}, turns{1: {4: 2, 3: 2}, 2: {1: 4}, 3: {2: 1}, 4: {2: 1}}},
		{"a pair twice, told on", []row{{1, 2, 4, 1, 2, 3}}, turns{1: {3: 2, 4: 2}, 2: {1: 3}, 3: {2: 1}, 4: {2: 1}}},
		{"a pair over the ring's end and within", []row{{2, 3, 9, 1, 2, 4, 1}}, turns{1: {9: 2, 4: 2}, 2: {1: 4}, 3: {2: 9}, 4: {2: 1}, 9: {3: 1}}},
		{"the ring's first place comes last", []row{{3, 1, 2, 4, 1, 2}}, turns{1: {3: 2, 4: 2}, 2: {1: 3}, 3: {2: 1}, 4: {2: 1}}},
		{"a pair in two rings", []row{{1, 2, 3}, {1, 2, 4}}, turns{1: {3: 2, 4: 2}, 2: {1: 4}, 3: {2: 1}, 4: {2: 1}}},
		{"in two rings, the other order", []row{{1, 2, 4}, {1, 2, 3}}, turns{1: {3: 2, 4: 2}, 2: {1: 3}, 3: {2: 1}, 4: {2: 1}}},
		{"in three rings", []row{{1, 2, 5, 1, 2, 6}, {2, 3, 1}, {8, 9}}, turns{1: {5: 2, 6: 2, 3: 2}, 2: {1: 3}, 3: {2: 1}, 5: {2: 1}, 6: {2: 1}, 8: {9: 9}, 9: {8: 8}}},
		{"the last ring, not its last place", []row{{1, 2, 5}, {7, 1, 2, 6, 1, 2}}, turns{1: {5: 2, 7: 2, 6: 2}, 2: {1: 7}, 5: {2: 1}, 6: {2: 1}, 7: {2: 1}}},
		{"a ring again", []row{{1, 2, 3}, {1, 2, 3}}, turns{1: {3: 2}, 2: {1: 3}, 3: {2: 1}}},
		{"a ring again, told from another", []row{{1, 2, 3}, {2, 3, 1}}, turns{1: {3: 2}, 2: {1: 3}, 3: {2: 1}}},
	} {
		wantTurns(t, c.what, plane.Around(c.faces), c.wanted)
	}
}

// P14.2: any rings, told by going through all from the last one back: what was told stays.
func TestAroundAny(t *testing.T) {
	by := chance(1)
	for range 4000 {
		var faces []row
		for range by.IntN(5) {
			var ring row
			for range by.IntN(9) {
				ring = append(ring, by.Uint32N(5))
			}
			faces = append(faces, ring)
		}
		wanted := turns{}
		for _, ring := range slices.Backward(faces) {
			twice := slices.Concat(ring, ring, ring)
			for i, v := range slices.Backward(ring) {
				ahead := twice[len(ring)+i-1]
				if wanted[v] == nil {
					wanted[v] = map[uint32]uint32{}
				}
				if _, told := wanted[v][ahead]; !told {
					wanted[v][ahead] = twice[i+1]
				}
			}
		}
		wantTurns(t, "any", plane.Around(faces), wanted)
	}
}

// P14.2: of a map's faces: the turns are what stands round each vertex.
func TestAroundFaces(t *testing.T) {
	by := chance(2)
	for range 100 {
		g := renamed(by, all(4), 100)
		m, _ := plane.Embed(g)
		var faces []row
		for _, face := range rot.Faces(m) {
			var ring row
			for _, d := range face {
				x := g.Edges[graph.Edge(g, d/2)]
				ring = append(ring, row{x.A, x.B}[d%2])
			}
			faces = append(faces, ring)
		}
		around := plane.Around(faces)
		want(t, "all", len(around), 4)
		for i, v := range g.Verts {
			turn := m.Rots[i]
			for j, d := range turn {
				want(t, "behind", around[v][other(g.Edges, v, d)], other(g.Edges, v, turn[(j+1)%len(turn)]))
			}
		}
	}
}

// other is the vertex at the other end of a dart at a vertex.
func other(l edges, v, d uint32) uint32 {
	for _, x := range l {
		if x.ID == d/2 {
			return x.A + x.B - v
		}
	}
	return 0
}
