package store

import (
	"bytes"
	"slices"
	"strconv"
	"testing"

	"chancery/api"
)

// spoil writes over a list and its spare room.
func spoil(b []byte) {
	for i := range b[:cap(b)] {
		b[:cap(b)][i] ^= 0xa5
	}
}

// P15.2: what is committed is neither changed nor kept, nor what stands beside it, be it appended, begun or refused.
func TestCommitKeepsNothing(t *testing.T) {
	for first := range 4 { // one of them begins a generation
		p := newPlate(t, 12)
		s := open(t, p)
		want := map[string]string{}
		for i := range first {
			commit(t, s, set("k"+strconv.Itoa(i), "v"))
			want["k"+strconv.Itoa(i)] = "v"
		}
		around := []byte(many('x', 400))
		before := slices.Clone(around)
		list := make([]Change, 3, 5)
		list[0] = Change{Key: around[10:12], Value: around[20:60]}
		list[1] = Change{Key: around[30:33], Value: around[0:0]}
		list[2] = Change{Key: around[40:44], Value: around[50:70], Gone: true}
		asWas := slices.Clone(list[:5])
		commit(t, s, list...)
		want["xx"], want["xxx"] = many('x', 40), ""
		full := []Change{{Key: around[:5], Value: around[:300]}}
		expect(t, "too much", s.Commit(full), api.ErrFull)
		expect(t, "no key", s.Commit([]Change{{Key: around[:5], Value: around[:3]}, {Value: around[:1]}}), api.ErrForm)
		for i, c := range list[:5] {
			if !bytes.Equal(c.Key, asWas[i].Key) || !bytes.Equal(c.Value, asWas[i].Value) || c.Gone != asWas[i].Gone {
				t.Fatal("the list was changed")
			}
		}
		if !bytes.Equal(around, before) {
			t.Fatal("what was handed in was changed")
		}
		spoil(around)
		clear(list[:5])
		holds(t, s, want)
		holds(t, open(t, p), want)
		for i := range 5 { // a generation begins with them
			commit(t, s, set("more", strconv.Itoa(i)))
		}
		want["more"] = "4"
		holds(t, s, want)
		holds(t, open(t, p), want)
	}
}

// P15.1: what is asked for is neither changed nor kept.
func TestAskingKeepsNothing(t *testing.T) {
	s := open(t, newPlate(t, 40))
	commit(t, s, set("key", "value"), set("kez", "other"))
	around := []byte("..key..")
	if v, ok := s.Get(around[2:5]); !ok || string(v) != "value" {
		t.Fatal(v, ok)
	}
	if got := s.Keys(around[2:4]); len(got) != 2 {
		t.Fatal(got)
	}
	if string(around) != "..key.." {
		t.Fatal("what was handed in was changed")
	}
	spoil(around)
	holds(t, s, map[string]string{"key": "value", "kez": "other"})
}

// keysAreNew spoils one of the keys that are told, and then their list.
func keysAreNew(t *testing.T, s *Store, at int) {
	t.Helper()
	one, two := s.Keys(nil), s.Keys(nil)
	was := string(one[at])
	spoil(one[at])
	for i := range one {
		if i != at && !bytes.Equal(one[i], two[i]) {
			t.Fatal("two keys of one answer share memory")
		}
	}
	if string(two[at]) != was {
		t.Fatal("two answers share memory")
	}
	clear(one[:cap(one)])
	if string(two[at]) != was {
		t.Fatal("two lists share memory")
	}
}

// P15.1: values and keys are new memory each time, and no two keys of one answer share any, spare room too.
func TestAnswersAreNew(t *testing.T) {
	p := newPlate(t, 40)
	s := open(t, p)
	want := map[string]string{}
	for i := range 9 {
		k := "k" + many('k', i)
		want[k] = many('v', 5*i)
		commit(t, s, set(k, want[k]))
	}
	for _, x := range []*Store{s, open(t, p)} {
		for k, v := range want {
			one, _ := x.Get([]byte(k))
			two, _ := x.Get([]byte(k))
			spoil(one)
			if string(two) != v {
				t.Fatal("two answers share memory")
			}
			holds(t, x, want)
		}
		for k := range want {
			keysAreNew(t, x, len(k)-1)
			holds(t, x, want)
		}
	}
	for i := range 40 { // through a generation
		commit(t, s, set("k", strconv.Itoa(i)))
	}
	want["k"] = "39"
	holds(t, s, want)
	holds(t, open(t, p), want)
}

// P15.1: what was told stays as it was, whatever is committed then.
func TestAnswersStay(t *testing.T) {
	s := open(t, newPlate(t, 12))
	var values [][]byte
	var keys [][][]byte
	for i := range 20 {
		commit(t, s, set("k", many(byte('a'+i), 10)), set(strconv.Itoa(i), ""), gone(strconv.Itoa(i-1)))
		v, _ := s.Get([]byte("k"))
		values = append(values, v)
		keys = append(keys, s.Keys(nil))
	}
	for i := range 20 {
		if string(values[i]) != many(byte('a'+i), 10) || len(keys[i]) != 2 || string(keys[i][0]) != strconv.Itoa(i) {
			t.Error("an answer changed behind its call", i)
		}
	}
}

// P15.4: a change shares no memory with what put wrote, nor with another; what get takes is its own.
func TestTableMemory(t *testing.T) {
	s := open(t, newPlate(t, 40))
	var taken [][]byte
	x := NewTable(s, "t", putBytes, func(b []byte) ([]byte, bool) {
		taken = append(taken, b)
		return b, true
	})
	thing := []byte("a thing")
	c, d := x.Change("n", thing), x.Change("n", thing)
	spoil(c.Key)
	spoil(c.Value)
	if string(thing) != "a thing" || string(d.Value) != "a thing" || string(d.Key) != "tn" {
		t.Fatalf("they share memory: %q %v", thing, d)
	}
	commit(t, s, d)
	spoil(thing)
	spoil(d.Value)
	one, _ := x.Get("n")
	two, _ := x.Get("n")
	spoil(one)
	if string(two) != "a thing" {
		t.Fatalf("two answers share memory: %q", two)
	}
	for _, b := range taken {
		clear(b)
	}
	if v, ok := x.Get("n"); !ok || string(v) != "a thing" {
		t.Fatalf("the store shares memory with get: %q, %v", v, ok)
	}
	names := x.Names()
	clear(names)
	if got := x.Names(); !slices.Equal(got, []string{"n"}) {
		t.Fatalf("%q", got)
	}
}
