package files

import (
	"slices"

	"parterre/api"
)

// batch is what acts come to: a table, and what stands in the sectors of those of its files that were put. Till it is committed nothing else is changed.
type batch struct {
	table
	blocks map[int]api.Block
}

func newBatch(t *table) *batch {
	return &batch{table: t.copy(), blocks: map[int]api.Block{}}
}

// do does the acts, up to the first error.
func (b *batch) do(l []Act) api.Errno {
	for _, a := range l {
		if e := b.fault(a); e != api.OK {
			return e
		}
		switch a.Kind {
		case put:
			if e := b.put(a.Name, a.Data); e != api.OK {
				return e
			}
		case remove:
			b.remove(a.Name)
		case rename:
			b.rename(a.Name, a.To)
		}
	}
	return api.OK
}

// fault is the error of an act, in the chapter's order, but for the last one, that it finds no run.
func (b *batch) fault(a Act) api.Errno {
	switch {
	case a.Kind != put && a.Kind != remove && a.Kind != rename:
		return api.ErrKind
	case !Named(a.Name) || a.Kind == rename && !Named(a.To):
		return api.ErrName
	case len(a.Data) > api.MaxFile:
		return api.ErrLong
	case a.Kind != put && !b.has(a.Name):
		return api.ErrNone
	case a.Kind == rename && b.has(a.To):
		return api.ErrThere
	case a.Kind == put && !b.has(a.Name) && len(b.index) == api.MaxFiles:
		return api.ErrMany
	}
	return api.OK
}

// put gives the file's old sectors first, as its new run may begin there.
func (b *batch) put(name, data string) api.Errno {
	i, there := b.index[name]
	if !there {
		i = slices.Index(b.places[:], place{})
	}
	b.leave(b.places[i])
	p := place{name: name, size: len(data)}
	if data != "" {
		at, e := b.free.Take(sectorsOf(p.size))
		if e != api.OK {
			return e
		}
		p.at = at
	}
	for n, at := range p.sectors() {
		var block api.Block
		copy(block[:], data[n*api.Sector:])
		b.blocks[at] = block
	}
	b.places[i] = p
	b.index[name] = i
	return api.OK
}

func (b *batch) remove(name string) {
	i := b.index[name]
	b.leave(b.places[i])
	b.places[i] = place{}
	delete(b.index, name)
}

// rename leaves the file in its place.
func (b *batch) rename(name, to string) {
	i := b.index[name]
	b.places[i].name = to
	delete(b.index, name)
	b.index[to] = i
}

// leave gives a file's sectors. What was put into them ahead in the batch is nobody's any more, so it needn't be written.
func (b *batch) leave(p place) {
	b.free.Give(p.runs()...)
	for _, at := range p.sectors() {
		delete(b.blocks, at)
	}
}
