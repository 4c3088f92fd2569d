package plane_test

import (
	"slices"
	"strconv"
	"testing"

	"parterre/api"
	"parterre/graph"
	"parterre/plane"
	"parterre/rot"
)

// ringOf is a ring of so many vertices, from one on.
func ringOf(first, n int) [][2]int {
	var pairs [][2]int
	for i := range n {
		pairs = append(pairs, [2]int{first + i, first + (i+1)%n})
	}
	return pairs
}

// spokes is edges from one vertex to n others, from one on, each so far from the one ahead.
func spokes(hub, first, n, by int) [][2]int {
	var pairs [][2]int
	for i := range n {
		pairs = append(pairs, [2]int{hub, first + i*by})
	}
	return pairs
}

// posts is edges from n vertices to as many others.
func posts(from, to, n int) [][2]int {
	var pairs [][2]int
	for i := range n {
		pairs = append(pairs, [2]int{from + i, to + i})
	}
	return pairs
}

// prism is two rings, vertex with vertex.
func prism(n int) api.Graph {
	return linked(slices.Concat(ringOf(1, n), ringOf(n+1, n), posts(1, n+1, n))...)
}

// drum is a prism with a slanting edge more in each of its fields.
func drum(n int) api.Graph {
	return more(prism(n), append(posts(1, n+2, n-1), [2]int{n, n + 1})...)
}

// wheel is a ring and its hub.
func wheel(n int) api.Graph {
	return linked(append(ringOf(1, n), spokes(n+1, 1, n, 1)...)...)
}

// ladder is a ring of twice so many vertices, each with an edge to the one opposite.
func ladder(n int) api.Graph {
	return linked(append(ringOf(1, 2*n), posts(1, n+1, n)...)...)
}

// petersen is five vertices round five, those in a star.
func petersen() api.Graph {
	return linked(append(slices.Concat(ringOf(1, 5), posts(1, 6, 5)), [2]int{6, 8}, [2]int{8, 10}, [2]int{10, 7}, [2]int{7, 9}, [2]int{9, 6})...)
}

// icosahedron is a drum of five with a hub on each side.
func icosahedron() api.Graph {
	return more(drum(5), append(spokes(11, 1, 5, 1), spokes(12, 6, 5, 1)...)...)
}

// dodecahedron is a ring of five within one of ten within one of five.
func dodecahedron() api.Graph {
	g := linked(slices.Concat(ringOf(1, 5), ringOf(6, 10), ringOf(16, 5))...)
	for i := range 5 {
		g = more(g, [2]int{1 + i, 6 + 2*i}, [2]int{16 + i, 7 + 2*i})
	}
	return g
}

// cube is a vertex for each number of so many bits, with an edge where one bit is another one.
func cube(bits int) api.Graph {
	var pairs [][2]int
	for i := range 1 << bits {
		for bit := range bits {
			if j := i ^ 1<<bit; i < j {
				pairs = append(pairs, [2]int{i + 1, j + 1})
			}
		}
	}
	return linked(pairs...)
}

// field is 64 vertices, eight by eight, with 160 edges that don't cross: all that a graph may have.
func field() api.Graph {
	var pairs [][2]int
	for i := range 64 {
		x, y := i%8, i/8
		if x < 7 {
			pairs = append(pairs, [2]int{i + 1, i + 2})
		}
		if y < 7 {
			pairs = append(pairs, [2]int{i + 9, i + 1})
		}
		if x < 7 && y < 7 && i > 0 {
			pairs = append(pairs, [2]int{i + 1, i + 10})
		}
	}
	return linked(pairs...)
}

// torus is a field of vertices whose rows and columns are rings.
func torus(wide, high int) api.Graph {
	var pairs [][2]int
	for i := range wide * high {
		x, y := i%wide, i/wide
		pairs = append(pairs, [2]int{i + 1, y*wide + (x+1)%wide + 1}, [2]int{i + 1, (y+1)%high*wide + x + 1})
	}
	return linked(pairs...)
}

// stacked is triangles: each vertex more is put into one of those that there are.
func stacked(n int, pick func(n int) int) api.Graph {
	faces := [][3]int{{1, 2, 3}, {1, 2, 3}}
	pairs := ringOf(1, 3)
	for v := 4; v <= n; v++ {
		at := pick(len(faces))
		f := faces[at]
		pairs = append(pairs, [2]int{f[0], v}, [2]int{f[1], v}, [2]int{f[2], v})
		faces[at] = [3]int{f[0], f[1], v}
		faces = append(faces, [3]int{f[1], f[2], v}, [3]int{f[0], f[2], v})
	}
	return linked(pairs...)
}

// drawnOnes is graphs that can be drawn.
func drawnOnes() map[string]api.Graph {
	ring64, chain := linked(ringOf(1, 64)...), linked(posts(1, 2, 63)...)
	by := chance(3)
	return map[string]api.Graph{
		"nothing": {}, "nothing at all": {Verts: row{}, Edges: edges{}}, "a vertex": of(row{1}), "the last vertex": of(row{api.MaxID}), "64 vertices": of(upTo(64)),
		"an edge": bundle(1), "an edge back": of(nil, edges{edge(api.MaxID, 2, 1)}), "two of the same ends": bundle(2), "three": bundle(3), "160": bundle(160),
		"an edge, others alone": of(row{1, 4, 9}, edges{edge(7, 9, 4)}), "a path": linked(posts(1, 2, 5)...), "a long path": chain, "a star": linked(spokes(64, 1, 63, 1)...),
		"a ring": linked(ringOf(1, 3)...), "a long ring": ring64, "a long ring, twice": more(ring64, ringOf(1, 64)...), "a ring and a half, bundles": more(chain, append(posts(1, 2, 63), posts(1, 2, 34)...)...),
		"two rings at a vertex": chained(1, all(3), all(3)), "two rings at an edge": chained(2, all(3), all(3)), "21 rings at a vertex": linked(append(spokes(64, 1, 42, 1), posts(1, 22, 21)...)...),
		"rings in a row": chained(1, all(3), all(4), all(3), all(4), all(2), all(4)), "rings in a ring": linked(append(ringOf(1, 6), [2]int{1, 3}, [2]int{3, 5}, [2]int{5, 1})...),
		"parts": chained(0, all(4), bundle(3), all(2), all(4), wheel(5)), "many parts": chained(0, all(4), all(4), all(4), all(4), all(4), all(4), all(4), all(4)),
		"four": all(4), "two and many": sides(2, 62), "two and many, and an edge": more(sides(2, 62), [2]int{1, 2}), "one and many": sides(1, 63),
		"a prism": prism(3), "a long prism": prism(32), "a drum": drum(3), "a long drum": drum(32), "a drum with one hub": more(drum(30), spokes(61, 1, 30, 1)...), "a wheel": wheel(4), "a great wheel": wheel(63),
		"a cube": cube(3), "an icosahedron": icosahedron(), "a dodecahedron": dodecahedron(), "a field": field(), "a ladder of two": ladder(2),
		"triangles": stacked(54, by.IntN), "triangles in one another": stacked(54, func(n int) int { return n - 1 }), "triangles in the first": stacked(54, func(int) int { return 0 }),
		"double hub": more(linked(append(ringOf(1, 53), spokes(54, 1, 53, 1)...)...), spokes(55, 1, 53, 1)...), "outer": linked(append(ringOf(1, 64), spokes(1, 3, 61, 1)...)...),
	}
}

// P14.1: what can be drawn is, whatever its numbers are.
func TestDrawn(t *testing.T) {
	by := chance(4)
	for what, g := range drawnOnes() {
		want(t, what+": it may be", graph.Check(g), api.OK)
		wantDrawn(t, what, g)
		for range 4 {
			wantDrawn(t, what+", renamed", renamed(by, g, api.MaxID))
			wantDrawn(t, what+", in another order", renamed(by, g, 160))
		}
	}
}

// P14.1: a map that is the only one, but for the mirror.
func TestEmbedOne(t *testing.T) {
	by := chance(5)
	for _, g := range []api.Graph{all(4), prism(5), drum(7), wheel(6), cube(3), icosahedron(), dodecahedron(), stacked(20, by.IntN)} {
		faces := map[int]int{}
		m, _ := plane.Embed(g)
		for _, face := range rot.Faces(m) {
			faces[len(face)]++
		}
		for range 5 {
			h := renamed(by, g, 1000)
			m, ok := plane.Embed(h)
			want(t, "drawn", ok, true)
			got := map[int]int{}
			for _, face := range rot.Faces(m) {
				got[len(face)]++
			}
			for n, count := range faces {
				want(t, "faces of a size", got[n], count)
			}
		}
	}
	m, _ := plane.Embed(dodecahedron())
	for _, face := range rot.Faces(m) {
		want(t, "a face of a dodecahedron", len(face), 5)
	}
	want(t, "so many", len(rot.Faces(m)), 12)
}

// leastOnes is graphs that can't be drawn, but can be without any of their edges.
func leastOnes() map[string]api.Graph {
	k, s := all(5), sides(3, 3)
	overK, overS := k, s
	for _, x := range k.Edges {
		overK = laid(overK, x.ID, 5)
	}
	for _, x := range s.Edges {
		overS = laid(overS, x.ID, 6)
	}
	return map[string]api.Graph{
		"five": k, "five, a vertex on an edge": laid(k, 4, 1), "five, two on two": laid(laid(k, 1, 1), 2, 1), "five, 59 on an edge": laid(k, 10, 59), "five, laid over": overK,
		"three and three": s, "three and three, a vertex on an edge": laid(s, 4, 1), "three and three, 58 on an edge": laid(s, 1, 58), "three and three, laid over": overS,
	}
}

// P14.1, P14.3: the two, also with vertices laid on their edges, and with bundles; each edge taken away, and each of a bundle.
func TestNone(t *testing.T) {
	by := chance(6)
	for what, g := range leastOnes() {
		for _, g := range []api.Graph{g, renamed(by, g, 500), renamed(by, g, api.MaxID/2)} {
			wantNone(t, what, g)
			fat := g
			for _, x := range g.Edges[:7] {
				fat = thick(fat, x.ID, int(x.ID%3)+1)
			}
			wantNone(t, what+", with bundles", fat)
			for _, x := range g.Edges {
				wantDrawn(t, what+", an edge less", less(g, x.ID))
				wantDrawn(t, what+", a bundle less", graph.Keep(fat, func(y api.Edge) bool { return min(x.A, x.B) != min(y.A, y.B) || max(x.A, x.B) != max(y.A, y.B) }))
			}
			for _, x := range g.Edges[:7] {
				wantNone(t, what+", one of a bundle less", less(fat, x.ID))
			}
		}
	}
}

// P14.1: as one block of several, as one part of several.
func TestNoneAmong(t *testing.T) {
	by := chance(7)
	for what, g := range leastOnes() {
		if len(g.Verts) > 12 {
			continue
		}
		for i, l := range [][]api.Graph{{g, all(4)}, {all(4), g}, {bundle(3), g, wheel(5)}, {all(2), all(2), g, all(2)}, {prism(4), all(4), bundle(2), all(3), g}, {g, g}, {g, all(3), sides(3, 3)}} {
			for together, where := range []string{"among parts", "among blocks"} {
				whole := chained(together, l...)
				wantNone(t, what+" "+where, renamed(by, whole, api.MaxID))
				if i < 5 {
					first := uint32(0)
					for _, h := range l[:slices.IndexFunc(l, func(h api.Graph) bool { return graph.Same(h, g) })] {
						first += uint32(len(h.Edges))
					}
					for _, x := range whole.Edges[first:][:len(g.Edges)] {
						wantDrawn(t, what+" "+where+", an edge less", less(whole, x.ID))
					}
				}
			}
		}
		wantNone(t, what+", others alone", of(row{500, 501, 1000}, g.Edges))
	}
}

// noneOnes is greater graphs that can't be drawn.
func noneOnes() map[string]api.Graph {
	l := map[string]api.Graph{
		"six": all(6), "18": all(18), "three and four": sides(3, 4), "three and many": sides(3, 53), "six and many": sides(6, 26), "petersen": petersen(), "four bits": cube(4), "five bits": cube(5),
		"a torus": torus(3, 3), "a long torus": torus(3, 21), "a great torus": torus(8, 8), "a field, and one across": more(less(field(), 9), [2]int{20, 45}), "a ring, hubs on both sides, joined": more(linked(ringOf(1, 62)...), append(append(spokes(63, 1, 31, 2), spokes(64, 2, 31, 2)...), [2]int{63, 64})...),
		"a prism, twisted": linked(slices.Concat(posts(1, 2, 31), posts(33, 34, 31), posts(1, 33, 32), [][2]int{{32, 33}, {64, 1}})...), "an icosahedron, and one across": more(icosahedron(), [2]int{11, 12}), "a dodecahedron, and one across": more(dodecahedron(), [2]int{1, 16}),
		"a double hub, and one across": more(linked(append(ringOf(1, 51), spokes(52, 1, 51, 1)...)...), append(spokes(53, 1, 51, 1), [2]int{52, 53})...),
	}
	for _, n := range []int{3, 4, 5, 32} {
		l["a ladder of "+strconv.Itoa(n)] = ladder(n)
	}
	return l
}

// shrunk is what stays of a graph that can't be drawn, when each edge is taken out if what is left can't be drawn either, without the vertices on ways.
func shrunk(g api.Graph) api.Graph {
	for _, x := range g.Edges {
		if h := less(g, x.ID); !plane.Planar(h) {
			g = h
		}
	}
	for _, v := range g.Verts {
		var at edges
		for _, x := range g.Edges {
			if x.A == v || x.B == v {
				at = append(at, x)
			}
		}
		if len(at) == 2 {
			g = less(g, at[1].ID)
			x := &g.Edges[graph.Edge(g, at[0].ID)]
			x.A, x.B = at[0].A+at[0].B-v, at[1].A+at[1].B-v
		}
	}
	return of(nil, g.Edges)
}

// isOneOfTwo tells whether a graph is five, all with all, or three and three.
func isOneOfTwo(g api.Graph) bool {
	degree, pairs := map[uint32]int{}, map[[2]uint32]int{}
	for _, x := range g.Edges {
		degree[x.A]++
		degree[x.B]++
		pairs[[2]uint32{min(x.A, x.B), max(x.A, x.B)}]++
	}
	if len(g.Verts) == 5 {
		return len(g.Edges) == 10 && len(pairs) == 10
	}
	if len(g.Verts) != 6 || len(g.Edges) != 9 || len(pairs) != 9 {
		return false
	}
	side := map[uint32]int{}
	for _, x := range g.Edges {
		if x.A == g.Edges[0].A || x.B == g.Edges[0].A {
			side[x.A+x.B-g.Edges[0].A]++
		}
	}
	for _, x := range g.Edges {
		if degree[x.A] != 3 || degree[x.B] != 3 || side[x.A] == side[x.B] {
			return false
		}
	}
	return true
}

// wantProven: the map shows that there is one, or what is left of the graph, that there is none.
func wantProven(t *testing.T, what string, g api.Graph) bool {
	t.Helper()
	if plane.Planar(g) {
		wantDrawn(t, what, g)
		return true
	}
	wantNone(t, what, g)
	if left := shrunk(g); !isOneOfTwo(left) {
		t.Fatalf("%s: %v: what is left is %v", what, g, left)
	}
	return false
}

// P14.1: great graphs that can't be drawn, and what is left of them.
func TestNoneGreat(t *testing.T) {
	by := chance(8)
	for what, g := range noneOnes() {
		want(t, what+": it may be", graph.Check(g), api.OK)
		want(t, what, wantProven(t, what, g), false)
		want(t, what, wantProven(t, what, renamed(by, g, api.MaxID)), false)
	}
}

// P14.1: triangles that fill the plane, and any edge more.
func TestNoneMore(t *testing.T) {
	by := chance(9)
	for _, g := range []api.Graph{all(4), icosahedron(), stacked(12, by.IntN), stacked(53, by.IntN)} {
		for range 60 {
			a, b := 1+by.IntN(len(g.Verts)), 1+by.IntN(len(g.Verts))
			if a == b {
				continue
			}
			h := more(g, [2]int{a, b})
			beside := slices.ContainsFunc(g.Edges, func(x api.Edge) bool { return int(x.A) == a && int(x.B) == b || int(x.A) == b && int(x.B) == a })
			want(t, "one more", plane.Planar(h), beside)
		}
	}
}

// P14.1: graphs that were drawn as they grew.
func TestGrown(t *testing.T) {
	by := chance(10)
	for i := range 600 {
		verts, links := 2+by.IntN(14), 1+by.IntN(30)
		if i%6 == 0 {
			verts, links = 2+by.IntN(63), 1+by.IntN(160)
		}
		g := grown(by, verts, links)
		want(t, "it may be", graph.Check(g), api.OK)
		wantDrawn(t, "grown", g)
		wantDrawn(t, "grown, renamed", renamed(by, g, api.MaxID))
	}
	wantDrawn(t, "fully grown", grown(by, 64, 160))
}

// P14.1: any graphs: a map, or what is left, shows it.
func TestProven(t *testing.T) {
	by := chance(11)
	count := map[bool]int{}
	for i := range 500 {
		verts, links := 6+by.IntN(7), 15+by.IntN(20)
		if i%10 == 0 {
			verts, links = 8+by.IntN(57), 40+by.IntN(110)
		}
		g := grown(by, verts, links)
		for range by.IntN(6) {
			if a, b := 1+by.IntN(verts), 1+by.IntN(verts); a != b {
				g = more(g, [2]int{a, b})
			}
		}
		count[wantProven(t, "grown, and some edges more", renamed(by, g, 2000))]++
		var pairs [][2]int
		for range links {
			a := by.IntN(verts)
			pairs = append(pairs, [2]int{a + 1, (a+1+by.IntN(verts-1))%verts + 1})
		}
		count[wantProven(t, "any", renamed(by, linked(pairs...), 2000))]++
	}
	want(t, "many of both", min(count[true], count[false]) > 200, true)
}

// P14.3: a graph can be drawn just if each of its parts can, and if it can with any edge of a bundle doubled; what can be drawn can be with any edge less.
func TestFollows(t *testing.T) {
	by := chance(12)
	for range 120 {
		var l []api.Graph
		can := true
		for range 1 + by.IntN(3) {
			g := grown(by, 3+by.IntN(8), 2+by.IntN(14))
			for range by.IntN(4) {
				if a, b := 1+by.IntN(len(g.Verts)), 1+by.IntN(len(g.Verts)); a != b {
					g = more(g, [2]int{a, b})
				}
			}
			l = append(l, g)
			can = can && plane.Planar(g)
		}
		for together, what := range []string{"parts", "blocks"} {
			g := renamed(by, chained(together, l...), 5000)
			want(t, what, plane.Planar(g), can)
			for _, x := range g.Edges {
				want(t, what+", an edge doubled", plane.Planar(thick(g, x.ID, 1+int(x.ID%3))), can)
				if can {
					wantDrawn(t, what+", an edge less", less(g, x.ID))
				}
			}
		}
	}
}
