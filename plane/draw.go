package plane

import (
	"slices"

	"parterre/api"
	"parterre/block"
	"parterre/graph"
)

// drawing is a block, as far as it is drawn.
type drawing struct {
	faces [][]uint32 // rings of vertices, by which each edge that is drawn is gone once each way
	drawn map[uint32]struct{}
	left  []piece
}

// piece is edges that aren't drawn, and hang together by vertices that aren't drawn either; its feet are its vertices that are.
type piece struct {
	api.Graph
	feet []uint32
}

// draw is the faces of a block that has no bundles; false, if it can't be drawn. It begins with an edge, and goes on with a path through that piece which fits into the fewest faces, as Demoucron, Malgrange and Pertuiset found: if the block can be drawn, a piece that fits into one must lie there, and if each fits into more, it doesn't matter where one lies.
func draw(edges []api.Edge) ([][]uint32, bool) {
	first := edges[0]
	d := drawing{faces: [][]uint32{{first.A, first.B}}, drawn: map[uint32]struct{}{first.A: {}, first.B: {}}}
	d.left = d.pieces(edges[1:])
	for len(d.left) > 0 {
		at, faces := d.tightest()
		if len(faces) == 0 {
			return nil, false
		}
		d.join(at, faces[0])
	}
	return d.faces, true
}

// isFree tells whether a vertex isn't drawn.
func (d drawing) isFree(v uint32) bool {
	_, is := d.drawn[v]
	return !is
}

// pieces is those of edges that aren't drawn: one for each part of free vertices, and each edge that has none by itself.
func (d drawing) pieces(edges []api.Edge) []piece {
	var pieces []piece
	inner := graphOf(edges)
	inner.Verts = slices.DeleteFunc(inner.Verts, func(v uint32) bool { return !d.isFree(v) })
	inner = graph.Keep(inner, func(x api.Edge) bool { return d.isFree(x.A) && d.isFree(x.B) })
	for _, part := range graph.Parts(inner) {
		pieces = append(pieces, d.piece(slices.DeleteFunc(slices.Clone(edges), func(x api.Edge) bool {
			return !slices.Contains(part, x.A) && !slices.Contains(part, x.B)
		})))
	}
	for _, x := range edges {
		if !d.isFree(x.A) && !d.isFree(x.B) {
			pieces = append(pieces, d.piece([]api.Edge{x}))
		}
	}
	return pieces
}

func (d drawing) piece(edges []api.Edge) piece {
	p := piece{Graph: graphOf(edges)}
	p.feet = slices.DeleteFunc(slices.Clone(p.Verts), d.isFree)
	return p
}

// graphOf is edges, and just their ends.
func graphOf(edges []api.Edge) api.Graph {
	var verts []uint32
	for _, x := range edges {
		verts = append(verts, x.A, x.B)
	}
	return graph.Make(verts, edges...)
}

// tightest is the place of the first piece that fits into the fewest faces, and theirs.
func (d drawing) tightest() (int, []int) {
	var at int
	var fewest []int
	for i, p := range d.left {
		if faces := d.fits(p); i == 0 || len(faces) < len(fewest) {
			at, fewest = i, faces
		}
	}
	return at, fewest
}

// fits is the places of the faces that have all feet of a piece.
func (d drawing) fits(p piece) []int {
	var faces []int
	for i, ring := range d.faces {
		isOff := func(v uint32) bool { return !slices.Contains(ring, v) }
		if !slices.ContainsFunc(p.feet, isOff) {
			faces = append(faces, i)
		}
	}
	return faces
}

// join draws a path through a piece, from foot to foot across a face. As there is no shorter one, what the piece has between the path's vertices is the path's own edges.
func (d *drawing) join(at, face int) {
	p := d.left[at]
	path := block.Path(p.Graph, p.feet[0], p.feet[1], d.isFree)
	d.cut(face, path)
	rest := slices.DeleteFunc(p.Edges, func(x api.Edge) bool {
		return slices.Contains(path, x.A) && slices.Contains(path, x.B)
	})
	d.left = append(slices.Delete(d.left, at, at+1), d.pieces(rest)...)
}

// cut draws a path across a face, between two of its vertices: it becomes two.
func (d *drawing) cut(face int, path []uint32) {
	ring, from, to := d.faces[face], path[0], path[len(path)-1]
	inner := path[1 : len(path)-1]
	back := slices.Clone(inner)
	slices.Reverse(back)
	d.faces[face] = slices.Concat(along(ring, from, to), back)
	d.faces = append(d.faces, slices.Concat(along(ring, to, from), inner))
	for _, v := range inner {
		d.drawn[v] = struct{}{}
	}
}

// along is the vertices of a ring from one to another one.
func along(ring []uint32, from, to uint32) []uint32 {
	twice := slices.Concat(ring, ring)
	l := twice[slices.Index(twice, from):]
	return l[:slices.Index(l, to)+1]
}
