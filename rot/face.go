package rot

import (
	"parterre/api"
	"parterre/dart"
	"parterre/graph"
)

// round goes round a map's faces: it knows of each dart the one behind it in its face, and which were seen.
type round struct {
	behind map[uint32]uint32
	seen   map[uint32]struct{}
}

func roundOf(m api.Map) round {
	r := round{behind: map[uint32]uint32{}, seen: map[uint32]struct{}{}}
	for _, turn := range m.Rots {
		for i, d := range turn {
			r.behind[dart.Twin(d)] = turn[(i+1)%len(turn)]
		}
	}
	return r
}

// from is the darts of a face, from one on that wasn't seen; none, where it was, or isn't there.
func (r round) from(d uint32) []uint32 {
	var face []uint32
	for {
		next, is := r.behind[d]
		if _, was := r.seen[d]; was || !is {
			return face
		}
		r.seen[d] = struct{}{}
		face = append(face, d)
		d = next
	}
}

// Faces is all faces, by their first darts. The darts are asked for rising, so each face is found at its least one: told normally, and in order.
func Faces(m api.Map) [][]uint32 {
	r := roundOf(m)
	var faces [][]uint32
	for _, x := range m.Edges {
		for end := range 2 {
			if face := r.from(dart.Of(x.ID, end)); len(face) > 0 {
				faces = append(faces, face)
			}
		}
	}
	return faces
}

// Face is the face that has a dart; none, where it isn't there.
func Face(m api.Map, d uint32) []uint32 {
	return dart.Normal(roundOf(m).from(d)...)
}

// Genus is how far a map is from the plane: 0, where it lies in it.
func Genus(m api.Map) int {
	return (2*len(graph.Parts(m.Graph)) - graph.Alone(m.Graph) - len(m.Verts) + len(m.Edges) - len(Faces(m))) / 2
}
