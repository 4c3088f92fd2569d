package files

import (
	"maps"
	"strings"

	"parterre/api"
	"parterre/space"
	"parterre/wire"
)

const (
	tableAt      = api.Journal // its first sector
	tableSectors = api.MaxFiles / perSector
	filesAt      = tableAt + tableSectors // the first sector of files
	perSector    = 6                      // places of the table
	placeSize    = 1 + api.MaxName + 4 + 4
)

// place is one of the table: a file's, or one of none, which is its zero value.
type place struct {
	name     string
	at, size int
}

// sectorsOf is how many so many bytes need.
func sectorsOf(size int) int {
	return (size + api.Sector - 1) / api.Sector
}

// runs is the file's run; none, of no bytes.
func (p place) runs() []space.Run {
	if p.size == 0 {
		return nil
	}
	return []space.Run{{At: p.at, Len: sectorsOf(p.size)}}
}

// sectors is all of the file's sectors, rising.
func (p place) sectors() []int {
	var l []int
	for i := range sectorsOf(p.size) {
		l = append(l, p.at+i)
	}
	return l
}

func (p place) lay() string {
	noughts := strings.Repeat("\x00", api.MaxName-len(p.name))
	return wire.Out{}.Byte(uint8(len(p.name))).Raw(p.name, noughts).Four(uint32(p.at), uint32(p.size)).String()
}

func takePlace(in *wire.In) place {
	n := int(in.Byte())
	name := in.Raw(api.MaxName)
	return place{name: name[:min(n, len(name))], at: int(in.Four()), size: int(in.Four())}
}

// table is the files' places, and what follows of them.
type table struct {
	places [api.MaxFiles]place
	index  map[string]int // by name, which place
	free   *space.Space   // the sectors that no file has
}

func newTable(sectors int) table {
	return table{index: map[string]int{}, free: space.New(filesAt, sectors)}
}

// parse is the table that stands in these blocks, on a disk of so many sectors; false, where they aren't as told.
func parse(sectors int, blocks [tableSectors]api.Block) (table, bool) {
	t := newTable(sectors)
	for i := range t.places {
		from := i % perSector * placeSize
		in := wire.Of(string(blocks[i/perSector][from : from+placeSize]))
		if p := takePlace(in); p != (place{}) && !t.enter(i, p) {
			return table{}, false
		}
	}
	// Of these files there is just one table: so all noughts, and how many bytes the names have, are looked at in one.
	if t.lay() != blocks {
		return table{}, false
	}
	return t, true
}

// enter lets a place be a file's; false, where it can't be that.
func (t *table) enter(i int, p place) bool {
	if !Named(p.name) || t.has(p.name) || p.size > api.MaxFile || t.free.Claim(p.runs()...) != api.OK {
		return false
	}
	t.places[i] = p
	t.index[p.name] = i
	return true
}

// lay is the table's sectors.
func (t *table) lay() [tableSectors]api.Block {
	var blocks [tableSectors]api.Block
	for i, p := range t.places {
		copy(blocks[i/perSector][i%perSector*placeSize:], p.lay())
	}
	return blocks
}

func (t *table) has(name string) bool {
	_, ok := t.index[name]
	return ok
}

// copy is a table of its own.
func (t *table) copy() table {
	return table{places: t.places, index: maps.Clone(t.index), free: t.free.Copy()}
}
