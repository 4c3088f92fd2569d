package sketch

import (
	"parterre/api"
	"parterre/wire"
)

// Vertex is one vertex more.
func Vertex(v uint32) api.Step {
	return api.Step{Kind: api.AddVertex, ID: v}
}

// NoVertex is one less.
func NoVertex(v uint32) api.Step {
	return api.Step{Kind: api.DropVertex, ID: v}
}

// Link is one edge more, its darts right behind these.
func Link(x api.Edge, pa, pb uint32) api.Step {
	return api.Step{Kind: api.AddEdge, ID: x.ID, A: x.A, B: x.B, PA: pa, PB: pb}
}

// NoLink is one less.
func NoLink(id uint32) api.Step {
	return api.Step{Kind: api.DropEdge, ID: id}
}

// Lay lays a row of steps.
func Lay(o wire.Out, l ...api.Step) wire.Out {
	return wire.Row(o, l, layStep)
}

func layStep(o wire.Out, s api.Step) wire.Out {
	return o.Byte(uint8(s.Kind)).Four(s.ID, s.A, s.B, s.PA, s.PB)
}

// Take takes a row of at most so many steps.
func Take(i *wire.In, most int) []api.Step {
	return wire.Rows(i, most, takeStep)
}

func takeStep(i *wire.In) api.Step {
	s := api.Step{Kind: int(i.Byte()), ID: i.Four(), A: i.Four(), B: i.Four(), PA: i.Four(), PB: i.Four()}
	if s.Kind < api.AddVertex || s.Kind > api.DropEdge {
		i.Fail(api.ErrKind)
	}
	return s
}
