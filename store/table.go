package store

// Table is things of one type in a store.
type Table[T any] struct {
	s      *Store
	prefix string
	put    func(T) []byte
	get    func([]byte) (T, bool)
}

// NewTable makes a table.
func NewTable[T any](s *Store, prefix string, put func(T) []byte, get func([]byte) (T, bool)) *Table[T] {
	return &Table[T]{s: s, prefix: prefix, put: put, get: get}
}

// Get reads a thing.
func (t *Table[T]) Get(name string) (T, bool) {
	if value, ok := t.s.Get(t.key(name)); ok {
		return t.read(value)
	}
	var none T
	return none, false
}

// Change sets a thing.
func (t *Table[T]) Change(name string, v T) Change {
	value, ok := t.write(v)
	if !ok {
		return Change{} // which no Commit does
	}
	return Change{Key: t.key(name), Value: value}
}

// Drop removes one.
func (t *Table[T]) Drop(name string) Change { return Change{Key: t.key(name), Gone: true} }

// Names are all names.
func (t *Table[T]) Names() []string {
	var names []string
	for _, k := range t.s.pairs.keys(t.prefix) {
		names = append(names, k[len(t.prefix):])
	}
	return names
}

func (t *Table[T]) key(name string) []byte { return []byte(t.prefix + name) }

// read is what get makes of a value. A get that panics, or is nil, couldn't read it.
func (t *Table[T]) read(value []byte) (v T, ok bool) {
	defer func() { _ = recover() }()
	if thing, could := t.get(value); could {
		v, ok = thing, true
	}
	return v, ok
}

// write is what put makes of a thing, as new memory; false of a put that panics, or is nil.
func (t *Table[T]) write(v T) (value []byte, ok bool) {
	defer func() { _ = recover() }()
	value = append(value, t.put(v)...)
	return value, true
}
