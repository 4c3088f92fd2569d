package disk

import (
	"maps"
	"slices"

	"parterre/api"
)

// cache is what lasts in each sector, and what waits to.
type cache struct {
	lasting []api.Block
	waiting map[int]api.Block
}

func newCache(sectors int) cache {
	return cache{lasting: make([]api.Block, sectors), waiting: map[int]api.Block{}}
}

func (c *cache) has(at int) bool {
	return at >= 0 && at < len(c.lasting)
}

func (c *cache) now(at int) api.Block {
	if b, ok := c.waiting[at]; ok {
		return b
	}
	return c.lasting[at]
}

// waits sorts them, as the order of a map is chance.
func (c *cache) waits() []int {
	return slices.Sorted(maps.Keys(c.waiting))
}

// settle lets what waits in these sectors last; what waits in others is lost. A barrier and a crash differ by nothing else here.
func (c *cache) settle(sectors []int) {
	for _, at := range sectors {
		c.lasting[at] = c.waiting[at]
	}
	clear(c.waiting)
}
