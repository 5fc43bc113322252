package feed

import (
	"bytes"
	"maps"
	"slices"
	"strings"

	"freehold/api"
)

// Cache holds what a store holds. The zero Cache is as a new one.
type Cache struct {
	rev  int
	held map[string]api.Item
}

// NewCache is a cache without items.
func NewCache() *Cache { return &Cache{} }

// Load begins it anew with a list.
func (c *Cache) Load(l []api.Item, rev int) api.Errno {
	if c == nil {
		return api.ErrNil
	}
	if !standing(l, rev) {
		return api.ErrArg
	}
	c.rev, c.held = rev, nil
	for _, x := range l {
		c.hold(x)
	}
	return api.OK
}

// Take takes the next event.
func (c *Cache) Take(e api.Event) api.Errno {
	if c == nil {
		return api.ErrNil
	}
	_, there := c.held[e.Key]
	if !follows(e, c.rev) || there == (e.Kind == api.Created) {
		return api.ErrFeed
	}
	c.rev = e.Rev
	if e.Kind == api.Removed {
		delete(c.held, e.Key)
	} else {
		c.hold(api.Item{Key: e.Key, Rev: e.Rev, Data: e.Data})
	}
	return api.OK
}

// hold keeps an item, in memory of the cache's own.
func (c *Cache) hold(x api.Item) {
	if c.held == nil {
		c.held = map[string]api.Item{}
	}
	x = anew(x)
	c.held[x.Key] = x
}

// Rev is its revision.
func (c *Cache) Rev() int {
	if c == nil {
		return 0
	}
	return c.rev
}

// Get answers a key's item.
func (c *Cache) Get(key string) (api.Item, bool) {
	if c == nil {
		return api.Item{}, false
	}
	x, there := c.held[key]
	return anew(x), there
}

// List lists the items of a kind.
func (c *Cache) List(kind string) []api.Item {
	if c == nil {
		return nil
	}
	var l []api.Item
	for _, key := range slices.Sorted(maps.Keys(c.held)) {
		if isOf(key, kind) {
			l = append(l, anew(c.held[key]))
		}
	}
	return l
}

// anew is an item in memory of its own.
func anew(x api.Item) api.Item {
	return api.Item{Key: strings.Clone(x.Key), Rev: x.Rev, Data: bytes.Clone(x.Data)}
}
