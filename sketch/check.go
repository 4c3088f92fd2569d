package sketch

import (
	"slices"

	"parterre/api"
	"parterre/dart"
	"parterre/graph"
	"parterre/rot"
)

// check is the first error by which a step can't be done to a map.
func check(m api.Map, s api.Step) api.Errno {
	if e := checkForm(s); e != api.OK {
		return e
	}
	switch s.Kind {
	case api.AddVertex:
		return checkVertex(m.Graph, s.ID)
	case api.DropVertex:
		return checkNoVertex(m.Graph, s.ID)
	case api.AddEdge:
		return checkLink(m, s)
	}
	return checkNoLink(m.Graph, s.ID)
}

// checkForm is the error of a step by itself, whatever it is done to.
func checkForm(s api.Step) api.Errno {
	switch s.Kind {
	case api.AddEdge:
		return checkNumbers(s.ID, s.A, s.B)
	case api.AddVertex, api.DropVertex, api.DropEdge:
		if s != (api.Step{Kind: s.Kind, ID: s.ID}) {
			return api.ErrForm
		}
		return checkNumbers(s.ID)
	}
	return api.ErrKind
}

func checkNumbers(l ...uint32) api.Errno {
	for _, n := range l {
		if n < 1 || n > api.MaxID {
			return api.ErrArg
		}
	}
	return api.OK
}

func checkVertex(g api.Graph, v uint32) api.Errno {
	switch {
	case graph.Vert(g, v) >= 0:
		return api.ErrThere
	case len(g.Verts) >= api.MaxVerts:
		return api.ErrMany
	}
	return api.OK
}

func checkNoVertex(g api.Graph, v uint32) api.Errno {
	switch {
	case graph.Vert(g, v) < 0:
		return api.ErrNone
	case len(graph.Ends(g, v)) > 0:
		return api.ErrBusy
	}
	return api.OK
}

func checkLink(m api.Map, s api.Step) api.Errno {
	turns := turnsOf(m)
	switch {
	case graph.Edge(m.Graph, s.ID) >= 0:
		return api.ErrThere
	case len(m.Edges) >= api.MaxEdges:
		return api.ErrMany
	case s.A == s.B:
		return api.ErrLoop
	case graph.Vert(m.Graph, s.A) < 0 || graph.Vert(m.Graph, s.B) < 0:
		return api.ErrEnd
	case !isPlace(turns[s.A], s.PA) || !isPlace(turns[s.B], s.PB):
		return api.ErrTurn
	case isOnePart(m.Graph, s.A, s.B) && !isOneFace(m, dart.Next(turns[s.A], s.PA), dart.Next(turns[s.B], s.PB)):
		return api.ErrFace
	}
	return api.OK
}

func checkNoLink(g api.Graph, id uint32) api.Errno {
	if graph.Edge(g, id) < 0 {
		return api.ErrNone
	}
	return api.OK
}

// isPlace tells whether a dart can be put behind this one of the turn.
func isPlace(turn []uint32, behind uint32) bool {
	if len(turn) == 0 {
		return behind == 0
	}
	return slices.Contains(turn, behind)
}

func isOnePart(g api.Graph, v, w uint32) bool {
	return slices.ContainsFunc(graph.Parts(g), func(part []uint32) bool {
		return slices.Contains(part, v) && slices.Contains(part, w)
	})
}

func isOneFace(m api.Map, d, e uint32) bool {
	return slices.Contains(rot.Face(m, d), e)
}
