package store

import (
	"bytes"
	"encoding/binary"
	"maps"
	"slices"
	"testing"

	"chancery/api"
	"chancery/plate"
)

func set(key, value string) Change { return Change{Key: []byte(key), Value: []byte(value)} }

func gone(key string) Change { return Change{Key: []byte(key), Gone: true} }

// many is a text of one byte, many times.
func many(b byte, n int) string { return string(bytes.Repeat([]byte{b}, n)) }

func number(n int) []byte { return binary.BigEndian.AppendUint32(nil, uint32(n)) }

// slowBytes are changes in bytes, by the chapter's words.
func slowBytes(list ...Change) []byte {
	var b []byte
	for _, c := range list {
		if c.Gone {
			b = slices.Concat(b, []byte{0, byte(len(c.Key))}, c.Key)
		} else {
			b = slices.Concat(b, []byte{1, byte(len(c.Key))}, c.Key, number(len(c.Value)), c.Value)
		}
	}
	return b
}

// slowMark is a generation's mark by the chapter's words.
func slowMark(generation int) []byte {
	b := number(generation)
	for _, x := range number(generation) {
		b = append(b, 255-x)
	}
	return append(b, make([]byte, 56)...)
}

// slowSectors are the sectors of a log's record, by layer 14's words.
func slowSectors(generation, opening, place int, record []byte) [][]byte {
	all := append(number(len(record)), record...)
	for len(all)%48 != 0 {
		all = append(all, 0)
	}
	var sectors [][]byte
	for i := range len(all) / 48 {
		head := slices.Concat(number(generation), number(opening), number(place))
		head = binary.BigEndian.AppendUint16(head, uint16(i))
		head = binary.BigEndian.AppendUint16(head, uint16(len(all)/48-1))
		sectors = append(sectors, append(head, all[48*i:48*i+48]...))
	}
	return sectors
}

// slowStore works on sectors of its own, by the chapter's words, without crashes.
type slowStore struct {
	sectors    [][]byte
	pairs      map[string]string
	generation int
	opening    int
	records    int
	next       int // the sector behind the last record
}

func newSlow(sectors int) *slowStore {
	m := &slowStore{pairs: map[string]string{}}
	for range sectors {
		m.sectors = append(m.sectors, make([]byte, 64))
	}
	m.begin(1, m.pairs)
	return m
}

func (m *slowStore) half(generation int) (from, to int) {
	h := (len(m.sectors) - 2) / 2
	if generation%2 == 1 {
		return 2, 2 + h
	}
	return 2 + h, 2 + h + h
}

// reopen counts the opening on.
func (m *slowStore) reopen() {
	from, to := m.half(m.generation)
	m.opening = 1
	for _, s := range m.sectors[from:to] {
		if int(binary.BigEndian.Uint32(s)) == m.generation {
			m.opening = max(m.opening, int(binary.BigEndian.Uint32(s[4:]))+1)
		}
	}
}

// add writes a record, if it fits.
func (m *slowStore) add(record []byte) bool {
	written := slowSectors(m.generation, m.opening, m.records+1, record)
	_, to := m.half(m.generation)
	if len(record) > 1<<16 || m.next+len(written) > to {
		return false
	}
	copy(m.sectors[m.next:], written)
	m.next += len(written)
	m.records++
	return true
}

// begin begins a generation with pairs, if they fit.
func (m *slowStore) begin(generation int, pairs map[string]string) bool {
	var list []Change
	for _, k := range slices.Sorted(maps.Keys(pairs)) {
		list = append(list, set(k, pairs[k]))
	}
	from, to := m.half(generation)
	first := slowBytes(list...)
	if generation == 1<<31 || len(first) > 1<<16 || len(slowSectors(1, 1, 1, first)) > to-from {
		return false
	}
	m.sectors[from] = make([]byte, 64)
	m.generation, m.records, m.next = generation, 0, from
	m.reopen()
	m.add(first)
	m.sectors[generation%2] = slowMark(generation)
	m.pairs = pairs
	return true
}

func (m *slowStore) commit(list ...Change) api.Errno {
	if len(list) == 0 {
		return api.OK
	}
	after := slowAfter(m.pairs, list...)
	if m.add(slowBytes(list...)) {
		m.pairs = after
		return api.OK
	}
	if m.begin(m.generation+1, after) {
		return api.OK
	}
	return api.ErrFull
}

// slowAfter are the pairs behind changes.
func slowAfter(pairs map[string]string, list ...Change) map[string]string {
	after := maps.Clone(pairs)
	for _, c := range list {
		delete(after, string(c.Key))
		if !c.Gone {
			after[string(c.Key)] = string(c.Value)
		}
	}
	return after
}

func expect(t *testing.T, what string, got, want api.Errno) {
	t.Helper()
	if got != want {
		t.Fatalf("%s: %d, want %d", what, got, want)
	}
}

func newPlate(t *testing.T, sectors int) *plate.Plate {
	t.Helper()
	p := plate.New(sectors)
	if p == nil {
		t.Fatal("no plate of", sectors)
	}
	return p
}

// open opens a store, which must be done.
func open(t *testing.T, p *plate.Plate) *Store {
	t.Helper()
	s, e := Open(p)
	if e != api.OK || s == nil {
		t.Fatalf("Open is %v, %d", s, e)
	}
	return s
}

// refused opens a store, which must be refused so, and write nothing.
func refused(t *testing.T, what string, p *plate.Plate, want api.Errno) {
	t.Helper()
	before := content(p)
	if s, e := Open(p); s != nil || e != want {
		t.Fatalf("%s: Open is %v, %d, want %d", what, s, e, want)
	}
	if content(p) != before {
		t.Fatalf("%s: Open wrote", what)
	}
}

// commit does changes, which must be done.
func commit(t *testing.T, s *Store, list ...Change) {
	t.Helper()
	expect(t, "Commit", s.Commit(list), api.OK)
}

// content is all that stands on a plate, and how much of it isn't safe.
func content(p *plate.Plate) string {
	b := number(p.Loose())
	for at := range p.Sectors() {
		s, _ := p.Read(at)
		b = append(b, s...)
	}
	return string(b)
}

// lay writes sectors from a place on, and makes them safe.
func lay(t *testing.T, p *plate.Plate, at int, sectors ...[]byte) {
	t.Helper()
	for i, s := range sectors {
		expect(t, "Write", p.Write(at+i, s), api.OK)
	}
	expect(t, "Sync", p.Sync(), api.OK)
}

// allOf are all pairs of a store, as it tells them.
func allOf(t *testing.T, s *Store) map[string]string {
	t.Helper()
	all := map[string]string{}
	last := ""
	for _, k := range s.Keys(nil) {
		v, ok := s.Get(k)
		if !ok {
			t.Fatalf("a key without a value: %q", k)
		}
		if string(k) <= last {
			t.Fatalf("the key %q behind %q", k, last)
		}
		last = string(k)
		all[last] = string(v)
	}
	return all
}

// holds asks a store for all its pairs.
func holds(t *testing.T, s *Store, want map[string]string) {
	t.Helper()
	if got := allOf(t, s); !maps.Equal(got, want) {
		t.Fatalf("the pairs are %q, want %q", got, want)
	}
}

// stands holds a plate and its store against the slow one's.
func stands(t *testing.T, p *plate.Plate, s *Store, m *slowStore) {
	t.Helper()
	holds(t, s, m.pairs)
	if s.Generation() != m.generation {
		t.Fatalf("the generation is %d, want %d", s.Generation(), m.generation)
	}
	if p.Loose() != 0 {
		t.Fatal(p.Loose(), "writes aren't safe")
	}
	for at, want := range m.sectors {
		if got, _ := p.Read(at); !bytes.Equal(got, want) {
			t.Fatalf("generation %d, sector %d is\n%x, want\n%x", m.generation, at, got, want)
		}
	}
}
