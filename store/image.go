package store

import (
	"maps"

	"freehold/api"
)

const (
	// letters is how an image begins.
	letters = "freehold"

	// wide is the bytes of a number.
	wide = 8
)

// Bytes tells the whole store.
func (s *Store) Bytes() []byte {
	if s == nil {
		return nil
	}
	b := pack(nil, letters, s.rev, s.floor, len(s.base))
	for _, key := range s.base.keys("", "") {
		o := s.base[key]
		b = pack(b, len(key), key, o.rev, len(o.data), o.data)
	}
	for _, x := range s.past {
		b = pack(b, x.kind, len(x.key), x.key)
		if x.kind != api.Removed {
			b = pack(b, len(x.data), x.data)
		}
	}
	return b
}

// pack puts numbers and texts behind what is there.
func pack(b []byte, parts ...any) []byte {
	for _, p := range parts {
		switch x := p.(type) {
		case int:
			for i := range wide {
				b = append(b, byte(x>>(8*(wide-1-i))))
			}
		case string:
			b = append(b, x...)
		}
	}
	return b
}

// Open is the store that bytes tell.
func Open(b []byte) (*Store, api.Errno) {
	r := &reader{rest: b}
	if string(r.take(len(letters))) != letters {
		return nil, api.ErrImage
	}
	rev := r.number(0, api.MaxRevision)
	floor := r.number(rev-api.MaxPast, rev)
	base := r.objects(floor)
	s := &Store{rev: floor, floor: floor, base: base, now: maps.Clone(base)}
	for !r.bad && s.rev < rev {
		r.event(s)
	}
	if r.bad || len(r.rest) > 0 {
		return nil, api.ErrImage
	}
	return s, api.OK
}

// reader takes an image from its front. Once something is wrong, it takes nothing more.
type reader struct {
	rest []byte
	bad  bool
}

// take is the next bytes, so many of them. They are a piece of the image.
func (r *reader) take(n int) []byte {
	if r.bad || n > len(r.rest) {
		r.bad = true
		return nil
	}
	b := r.rest[:n]
	r.rest = r.rest[n:]
	return b
}

// number is the next number, which must be within bounds.
func (r *reader) number(least, most int) int {
	var n uint64
	for _, c := range r.take(wide) {
		n = n<<8 | uint64(c)
	}
	if n > uint64(most) || int(n) < least {
		r.bad = true
	}
	if r.bad {
		return 0
	}
	return int(n)
}

// text is the next text, its length ahead of it.
func (r *reader) text(least, most int) []byte {
	return r.take(r.number(least, most))
}

// objects is the state as of the floor.
func (r *reader) objects(floor int) objects {
	o := objects{}
	seen := map[int]struct{}{}
	last := ""
	for range r.number(0, api.MaxObjects) {
		key := string(r.text(1, maxKey))
		rev := r.number(1, floor)
		data := string(r.text(0, api.MaxObject))
		if _, twice := seen[rev]; twice || key <= last {
			r.bad = true
		}
		if r.bad {
			break
		}
		o[key] = object{rev: rev, data: data}
		seen[rev] = struct{}{}
		last = key
	}
	return o
}

// event has a store do the next write: what it refuses is no event that can be.
func (r *reader) event(s *Store) {
	kind := r.number(api.Created, api.Removed)
	key := string(r.text(1, maxKey))
	var data []byte
	if kind != api.Removed {
		data = r.text(0, api.MaxObject)
	}
	r.bad = r.bad || s.again(kind, key, data) != api.OK
}

// again does a write of a kind against what is there.
func (s *Store) again(kind int, key string, data []byte) api.Errno {
	var e api.Errno
	switch kind {
	case api.Created:
		_, e = s.Create(key, data)
	case api.Swapped:
		_, e = s.Swap(key, s.now[key].rev, data)
	case api.Removed:
		_, e = s.Remove(key, s.now[key].rev)
	}
	return e
}
