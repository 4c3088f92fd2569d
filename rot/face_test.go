package rot_test

import (
	"slices"
	"testing"

	"parterre/api"
	"parterre/rot"
)

// behind is the dart behind one in its face, sought through all turns.
func behind(m api.Map, d uint32) uint32 {
	for _, turn := range m.Rots {
		for i := range turn {
			if turn[i] == d^1 {
				return slices.Concat(turn, turn)[i+1]
			}
		}
	}
	return 0
}

// faces is all faces, each found from each of its darts.
func faces(m api.Map) []row {
	var l []row
	for _, d := range slices.Concat(m.Rots...) {
		face := row{d}
		for next := behind(m, d); next != d; next = behind(m, next) {
			face = append(face, next)
		}
		if slices.Min(face) == d {
			l = append(l, face)
		}
	}
	slices.SortFunc(l, slices.Compare[row])
	return l
}

// genus is that of all parts together, each told by itself: 2 - V + E - F is twice its genus.
func genus(m api.Map) int {
	sum := 0
	for _, part := range parts(m) {
		v, e, f := 0, 0, 0
		for i, x := range m.Verts {
			if slices.Contains(part, x) {
				v++
				e += len(m.Rots[i])
			}
		}
		for _, face := range faces(m) {
			i := slices.IndexFunc(m.Rots, func(turn []uint32) bool { return slices.Contains(turn, face[0]) })
			if slices.Contains(part, m.Verts[i]) {
				f++
			}
		}
		if e > 0 {
			sum += (2 - v + e/2 - f) / 2
		}
	}
	return sum
}

// parts is what hangs together, found by marks that spread along edges.
func parts(m api.Map) [][]uint32 {
	mark := map[uint32]uint32{}
	for _, v := range m.Verts {
		mark[v] = v
	}
	for range m.Verts {
		for _, x := range m.Edges {
			least := min(mark[x.A], mark[x.B])
			mark[x.A], mark[x.B] = least, least
		}
	}
	in := map[uint32][]uint32{}
	for _, v := range m.Verts {
		in[mark[v]] = append(in[mark[v]], v)
	}
	var l [][]uint32
	for _, v := range m.Verts {
		if len(in[v]) > 0 {
			l = append(l, in[v])
		}
	}
	return l
}

// P10.2: faces, told normally, by their first darts.
func TestFaces(t *testing.T) {
	three := edges{edge(1, 1, 2), edge(2, 1, 2), edge(3, 1, 2)}
	for _, c := range []struct {
		what   string
		m      api.Map
		wanted []row
		genus  int
	}{
		{"nothing", api.Map{}, nil, 0},
		{"a vertex alone", mapOf(row{4}, nil, nil), nil, 0},
		{"three alone", mapOf(row{4, 5, 6}, nil, nil, nil, nil), nil, 0},
		{"an edge", mapOf(row{1, 2}, edges{edge(1, 1, 2)}, row{2}, row{3}), []row{{2, 3}}, 0},
		{"an edge the other way", mapOf(row{1, 2}, edges{edge(9, 2, 1)}, row{19}, row{18}), []row{{18, 19}}, 0},
		{"an edge, one alone", mapOf(row{1, 2, 3}, edges{edge(1, 1, 3)}, row{2}, nil, row{3}), []row{{2, 3}}, 0},
		{"two edges apart", mapOf(row{1, 2, 3, 4}, edges{edge(1, 1, 3), edge(2, 4, 2)}, row{2}, row{5}, row{3}, row{4}), []row{{2, 3}, {4, 5}}, 0},
		{"two of the same ends", mapOf(row{1, 2}, edges{edge(1, 1, 2), edge(2, 1, 2)}, row{2, 4}, row{3, 5}), []row{{2, 5}, {3, 4}}, 0},
		{"two to and fro", mapOf(row{1, 2}, edges{edge(1, 1, 2), edge(2, 2, 1)}, row{2, 5}, row{3, 4}), []row{{2, 4}, {3, 5}}, 0},
		{"a path", mapOf(row{1, 2, 3}, edges{edge(1, 1, 2), edge(2, 2, 3)}, row{2}, row{3, 4}, row{5}), []row{{2, 4, 5, 3}}, 0},
		{"a star", mapOf(row{1, 2, 3, 4}, edges{edge(1, 1, 2), edge(2, 1, 3), edge(3, 1, 4)}, row{2, 6, 4}, row{3}, row{5}, row{7}), []row{{2, 3, 6, 7, 4, 5}}, 0},
		{"a ring", ring(), []row{{2, 4, 6}, {3, 7, 5}}, 0},
		{"three", mapOf(row{1, 2}, three, row{2, 4, 6}, row{3, 7, 5}), []row{{2, 7}, {3, 4}, {5, 6}}, 0},
		{"three, mirrored", mapOf(row{1, 2}, three, row{2, 6, 4}, row{3, 5, 7}), []row{{2, 5}, {3, 6}, {4, 7}}, 0},
		{"three, off the plane", twisted(), []row{{2, 5, 6, 3, 4, 7}}, 1},
	} {
		wantRows(t, c.what, rot.Faces(c.m), c.wanted)
		want(t, c.what+": genus", rot.Genus(c.m), c.genus)
	}
	want(t, "faces of the field", len(rot.Faces(field())), 98)
	for _, m := range maps() {
		wantRows(t, "faces", rot.Faces(m), faces(m))
		want(t, "genus", rot.Genus(m), genus(m))
	}
}

// P10.2: the face that has a dart; none, where it isn't there.
func TestFace(t *testing.T) {
	for _, c := range []struct {
		d      uint32
		wanted row
	}{
		{2, row{2, 4, 6}}, {4, row{2, 4, 6}}, {6, row{2, 4, 6}}, {3, row{3, 7, 5}}, {5, row{3, 7, 5}}, {7, row{3, 7, 5}}, {0, nil}, {1, nil}, {8, nil}, {9, nil}, {top, nil},
	} {
		wantRow(t, "face", rot.Face(ring(), c.d), c.wanted)
	}
	want(t, "of nothing", len(rot.Face(api.Map{}, 0))+len(rot.Face(api.Map{}, 2)), 0)
	for _, m := range maps() {
		in := map[uint32]row{}
		for _, face := range faces(m) {
			for _, d := range face {
				in[d] = face
			}
		}
		for d := range uint32(330) {
			wantRow(t, "face", rot.Face(m, d), in[d])
		}
		for d, face := range in {
			wantRow(t, "face", rot.Face(m, d), face)
		}
		for _, d := range (row{2*api.MaxID + 2, 2*api.MaxID + 3, top}) {
			want(t, "of none", len(rot.Face(m, d)), 0)
		}
	}
}

// P10.2: how many of all maps of a graph are of each genus; so many there are known to be.
func TestGenus(t *testing.T) {
	four := all(4)
	for _, c := range []struct {
		what   string
		g      api.Graph
		wanted []int
	}{
		{"nothing", api.Graph{}, []int{1}},
		{"two edges", bundle(2), []int{1}},
		{"three edges", bundle(3), []int{2, 2}},
		{"four edges", bundle(4), []int{6, 30}},
		{"five edges", bundle(5), []int{24, 360, 192}},
		{"four vertices, all with all", four, []int{2, 14}},
		{"three and three", threes(), []int{0, 40, 24}},
		{"five vertices, all with all", all(5), []int{0, 462, 4974, 2340}},
		{"three edges twice, and two alone", beside(beside(bundle(3), api.Graph{Verts: row{1, 2}}, 50), bundle(3), 100), []int{4, 8, 4}},
		{"four, and three edges", beside(four, bundle(3), 10), []int{4, 32, 28}},
	} {
		got := make([]int, len(c.wanted))
		for _, m := range drawings(c.g) {
			g := rot.Genus(m)
			want(t, "right", rot.Right(m) == api.OK, g == 0)
			if g < 0 || g >= len(got) {
				t.Fatalf("%s: genus %d", c.what, g)
			}
			got[g]++
		}
		wantRow(t, c.what, got, c.wanted)
	}
}

// P10.3: each dart is in one face; with fewer edges the genus isn't greater; mirrored it is the same.
func TestFollows(t *testing.T) {
	by := chance(2)
	l := slices.Concat(maps(), drawings(bundle(4)), drawings(all(4)), drawings(threes()))
	for i, m := range drawings(all(5)) {
		if i%40 == 0 {
			l = append(l, m)
		}
	}
	for _, m := range l {
		in, darts := slices.Concat(rot.Faces(m)...), slices.Concat(m.Rots...)
		slices.Sort(in)
		slices.Sort(darts)
		wantRow(t, "each in one face", in, darts)
		whole := rot.Genus(m)
		want(t, "below 0", whole < 0, false)
		mirror := rot.Mirror(m)
		want(t, "mirrored", rot.Genus(mirror), whole)
		want(t, "as many faces", len(rot.Faces(mirror)), len(rot.Faces(m)))
		want(t, "as right", rot.Right(mirror), rot.Right(m))
		for range 8 {
			stay := map[uint32]bool{}
			for _, x := range m.Edges {
				stay[x.ID] = by.IntN(4) > 0
			}
			less := rot.Genus(rot.Keep(m, func(x api.Edge) bool { return stay[x.ID] }))
			want(t, "fewer edges", less >= 0 && less <= whole, true)
		}
		want(t, "no edges", rot.Genus(rot.Keep(m, func(api.Edge) bool { return false })), 0)
	}
}
