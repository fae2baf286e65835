package store

import (
	"bytes"
	"errors"
	"slices"
	"strconv"
	"testing"

	"chancery/api"
)

type pair struct{ a, b byte }

func putPair(v pair) []byte { return []byte{v.a, v.b} }

// getPair tells something of a value that it can't read, too.
func getPair(b []byte) (pair, bool) {
	if len(b) != 2 {
		return pair{a: 77}, false
	}
	return pair{b[0], b[1]}, true
}

func putNumber(n int) []byte { return []byte(strconv.Itoa(n)) }

func getNumber(b []byte) (int, bool) {
	n, err := strconv.Atoi(string(b))
	return n, err == nil
}

func putBytes(b []byte) []byte { return b }

func getBytes(b []byte) ([]byte, bool) { return b, true }

// P15.4: things are put under the prefix and their name, as put writes them, and got back.
func TestTable(t *testing.T) {
	p := newPlate(t, 100)
	s := open(t, p)
	x := NewTable(s, "p/", putPair, getPair)
	if v, ok := x.Get("one"); ok || v != (pair{}) {
		t.Error("ahead of all:", v, ok)
	}
	commit(t, s, x.Change("one", pair{1, 2}), x.Change("two", pair{3, 4}), x.Change("", pair{5, 6}), set("p", "no"), set("q/one", "no"))
	holds(t, s, map[string]string{"p/one": "\x01\x02", "p/two": "\x03\x04", "p/": "\x05\x06", "p": "no", "q/one": "no"})
	for name, want := range map[string]pair{"one": {1, 2}, "two": {3, 4}, "": {5, 6}} {
		if v, ok := x.Get(name); !ok || v != want {
			t.Errorf("Get(%q) is %v, %v", name, v, ok)
		}
		if v, ok := NewTable(open(t, p), "p/", putPair, getPair).Get(name); !ok || v != want {
			t.Errorf("opened again, Get(%q) is %v, %v", name, v, ok)
		}
	}
	for _, name := range []string{"three", "on", "one ", "p/one", many('n', 40)} {
		if v, ok := x.Get(name); ok || v != (pair{}) {
			t.Errorf("Get(%q) is %v, %v", name, v, ok)
		}
	}
	commit(t, s, x.Drop("one"), x.Change("two", pair{7, 8}), x.Drop("none"))
	if v, ok := x.Get("one"); ok || v != (pair{}) {
		t.Error("dropped:", v, ok)
	}
	if v, ok := x.Get("two"); !ok || v != (pair{7, 8}) {
		t.Error("changed:", v, ok)
	}
	if got := x.Names(); !slices.Equal(got, []string{"", "two"}) {
		t.Errorf("the names are %q", got)
	}
}

// P15.4: of a value that get can't read there is nothing, not even what get told.
func TestTableUnread(t *testing.T) {
	s := open(t, newPlate(t, 100))
	x := NewTable(s, "p", putPair, getPair)
	commit(t, s, set("p1", "long one"), set("p2", ""), set("p3", "ok"))
	for _, name := range []string{"1", "2"} {
		if v, ok := x.Get(name); ok || v != (pair{}) {
			t.Errorf("Get(%q) is %v, %v", name, v, ok)
		}
	}
	if v, ok := x.Get("3"); !ok || v != (pair{'o', 'k'}) {
		t.Error(v, ok)
	}
	if got := x.Names(); !slices.Equal(got, []string{"1", "2", "3"}) {
		t.Errorf("the names are %q", got)
	}
}

// P15.4: changes are told, and not done; they are those of the chapter.
func TestTableChanges(t *testing.T) {
	p := newPlate(t, 100)
	s := open(t, p)
	x := NewTable(s, "num/", putNumber, getNumber)
	before := content(p)
	c, d := x.Change("a", 42), x.Drop("b")
	if string(c.Key) != "num/a" || string(c.Value) != "42" || c.Gone {
		t.Errorf("Change is %v", c)
	}
	if string(d.Key) != "num/b" || len(d.Value) != 0 || !d.Gone {
		t.Errorf("Drop is %v", d)
	}
	if content(p) != before || len(s.Keys(nil)) != 0 {
		t.Error("something was done")
	}
	commit(t, s, c)
	if n, ok := x.Get("a"); !ok || n != 42 {
		t.Error(n, ok)
	}
}

// P15.4: names rise, byte by byte; a table with no prefix has all keys.
func TestTableNames(t *testing.T) {
	s := open(t, newPlate(t, 100))
	x, all := NewTable(s, "t", putNumber, getNumber), NewTable(s, "", putNumber, getNumber)
	if len(x.Names()) != 0 || len(all.Names()) != 0 {
		t.Error(x.Names(), all.Names())
	}
	names := []string{"b", "a", "\xff", "\x00", "10", "9", "tt", "é", "B"}
	for i, n := range names {
		commit(t, s, x.Change(n, i))
	}
	commit(t, s, set("s", "1"), set("u", "2"), set("T", "3"))
	slices.Sort(names)
	if got := x.Names(); !slices.Equal(got, names) {
		t.Errorf("the names are %q, want %q", got, names)
	}
	if got := all.Names(); len(got) != 12 || got[0] != "T" || got[1] != "s" || got[2] != "t\x00" || got[11] != "u" {
		t.Errorf("all names are %q", got)
	}
	if n, ok := all.Get("u"); !ok || n != 2 {
		t.Error(n, ok)
	}
}

// P15.4: a key or a value that hasn't its length is Commit's to refuse.
func TestTableLengths(t *testing.T) {
	p := newPlate(t, 1000)
	s := open(t, p)
	x := NewTable(s, "0123456789", putBytes, getBytes)
	commit(t, s, x.Change(many('n', 22), []byte(many('v', api.MaxValue))))
	refusedCommit(t, "a name too long", p, s, api.ErrForm, x.Change(many('n', 23), nil))
	refusedCommit(t, "a name too long to drop", p, s, api.ErrForm, x.Drop(many('n', 23)))
	refusedCommit(t, "a thing too long", p, s, api.ErrForm, x.Change("n", []byte(many('v', api.MaxValue+1))))
	refusedCommit(t, "no key", p, s, api.ErrForm, NewTable(s, "", putBytes, getBytes).Change("", nil))
	if v, ok := x.Get(many('n', 22)); !ok || len(v) != api.MaxValue {
		t.Error(len(v), ok)
	}
}

// P15.4: tables of several types work on one store.
func TestTables(t *testing.T) {
	s := open(t, newPlate(t, 12))
	pairs, numbers, lists := NewTable(s, "p", putPair, getPair), NewTable(s, "n", putNumber, getNumber), NewTable(s, "l", putBytes, getBytes)
	for i := range 30 {
		name := strconv.Itoa(i % 2)
		commit(t, s, pairs.Change(name, pair{byte(i), 1}), numbers.Change(name, i), lists.Change(name, []byte{byte(i)}))
		v, ok := pairs.Get(name)
		n, okToo := numbers.Get(name)
		b, okThree := lists.Get(name)
		if !ok || !okToo || !okThree || v != (pair{byte(i), 1}) || n != i || !bytes.Equal(b, []byte{byte(i)}) {
			t.Fatal(v, n, b)
		}
	}
	if s.Generation() < 5 {
		t.Error(s.Generation())
	}
}

// P1: neither nil functions nor such as panic make a call panic; what put didn't write no Commit sets.
func TestTablePanics(t *testing.T) {
	p := newPlate(t, 40)
	s := open(t, p)
	commit(t, s, set("pa", "xx"), set("pb", ""))
	panicPut := func(pair) []byte { panic(errors.New("put")) }
	panicGet := func(b []byte) (pair, bool) { return pair{b[0], b[99]}, true }
	for _, x := range []*Table[pair]{NewTable[pair](s, "p", nil, nil), NewTable(s, "p", panicPut, panicGet)} {
		for _, name := range []string{"a", "b", "c"} {
			if v, ok := x.Get(name); ok || v != (pair{}) {
				t.Errorf("Get(%q) is %v, %v", name, v, ok)
			}
			refusedCommit(t, "what put didn't write", p, s, api.ErrForm, x.Change(name, pair{1, 2}))
		}
		if c := x.Drop("a"); string(c.Key) != "pa" || !c.Gone {
			t.Errorf("Drop is %v", c)
		}
		if got := x.Names(); !slices.Equal(got, []string{"a", "b"}) {
			t.Errorf("the names are %q", got)
		}
	}
	holds(t, s, map[string]string{"pa": "xx", "pb": ""})
}
