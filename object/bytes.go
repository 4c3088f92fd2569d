package object

import (
	"parterre/api"
	"parterre/wire"
)

// Bytes is an object's bytes.
func (o Object) Bytes() (string, api.Errno) {
	if e := o.Check(); e != api.OK {
		return "", e
	}
	out := wire.Out{}.Byte(o.Kind)
	switch o.Kind {
	case kindMap:
		out = layMap(out, o.Map)
	case kindCommit:
		out = layCommit(out, o.Commit)
	case kindTag:
		out = out.Digest(o.Tag.At).Text(o.Tag.Text)
	}
	return out.String(), api.OK
}

func layMap(o wire.Out, m api.Map) wire.Out {
	o = layNumbers(o, m.Verts)
	o = wire.Row(o, m.Edges, func(o wire.Out, x api.Edge) wire.Out { return o.Four(x.ID, x.A, x.B) })
	// How many turns there are isn't laid: there is one for each vertex.
	for _, turn := range m.Rots {
		o = layNumbers(o, turn)
	}
	return o
}

func layNumbers(o wire.Out, l []uint32) wire.Out {
	return wire.Row(o, l, func(o wire.Out, n uint32) wire.Out { return o.Four(n) })
}

func layCommit(o wire.Out, c api.Commit) wire.Out {
	o = wire.Row(o.Digest(c.Map), c.Parents, func(o wire.Out, d api.Digest) wire.Out { return o.Digest(d) })
	return o.Eight(c.Number).Text(c.Text)
}

// Parse is the object that bytes are.
func Parse(s string) (Object, api.Errno) {
	i := wire.Of(s)
	o := takeObject(i)
	if e := i.End(); e != api.OK {
		return Object{}, e
	}
	if e := o.Check(); e != api.OK {
		return Object{}, e
	}
	return o, api.OK
}

func takeObject(i *wire.In) Object {
	o := Object{Kind: i.Byte()}
	switch o.Kind {
	case kindMap:
		o.Map = takeMap(i)
	case kindCommit:
		o.Commit = takeCommit(i)
	case kindTag:
		o.Tag = api.Tag{At: i.Digest(), Text: i.Text(api.MaxText)}
	default:
		i.Fail(api.ErrKind)
	}
	return o
}

func takeMap(i *wire.In) api.Map {
	var m api.Map
	m.Verts = wire.Rows(i, api.MaxVerts, (*wire.In).Four)
	m.Edges = wire.Rows(i, api.MaxEdges, takeEdge)
	for range m.Verts {
		m.Rots = append(m.Rots, wire.Rows(i, 2*api.MaxEdges, (*wire.In).Four))
	}
	return m
}

func takeEdge(i *wire.In) api.Edge {
	return api.Edge{ID: i.Four(), A: i.Four(), B: i.Four()}
}

func takeCommit(i *wire.In) api.Commit {
	return api.Commit{Map: i.Digest(), Parents: wire.Rows(i, maxParents, (*wire.In).Digest), Number: i.Eight(), Text: i.Text(api.MaxText)}
}
