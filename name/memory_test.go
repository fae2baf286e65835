package name

import (
	"bytes"
	"math/rand"
	"slices"
	"sync"
	"testing"

	"chancery/api"
	"chancery/der"
)

// roomyValue is v, all lists of it with spare room, in which something stands.
func roomyValue(v der.Value) der.Value {
	v.Bytes = append(bytes.Clone(v.Bytes), 0xa5, 0xa5, 0xa5)[:len(v.Bytes)]
	kids := make([]der.Value, len(v.Kids)+3)
	for i := range kids {
		kids[i] = der.Value{Class: 7}
		if i < len(v.Kids) {
			kids[i] = roomyValue(v.Kids[i])
		}
	}
	v.Kids = kids[:len(v.Kids)]
	return v
}

// untouchedValue tells whether a roomy v is as it was made of v.
func untouchedValue(got, v der.Value) bool {
	if got.Class != v.Class || got.Tag != v.Tag || got.Made != v.Made || !bytes.Equal(got.Bytes, v.Bytes) || len(got.Kids) != len(v.Kids) {
		return false
	}
	if !bytes.Equal(got.Bytes[len(v.Bytes):len(v.Bytes)+3], []byte{0xa5, 0xa5, 0xa5}) {
		return false
	}
	for i, kid := range got.Kids[:len(v.Kids)+3] {
		if i < len(v.Kids) && !untouchedValue(kid, v.Kids[i]) || i >= len(v.Kids) && kid.Class != 7 {
			return false
		}
	}
	return true
}

// spoilValue writes over all the lists of a value, and their spare room.
func spoilValue(v der.Value) {
	for i := range v.Bytes[:cap(v.Bytes)] {
		v.Bytes[:cap(v.Bytes)][i] ^= 0xff
	}
	for _, kid := range v.Kids {
		spoilValue(kid)
	}
	for i := range v.Kids[:cap(v.Kids)] {
		v.Kids[:cap(v.Kids)][i] = der.Value{Class: 9}
	}
}

func roomyDN(d DN) DN { return append(slices.Clone(d), Attr{"spare", "room"})[:len(d)] }

func untouchedDN(got, d DN) bool {
	return sameDN(got, d) && got[:len(d)+1][len(d)] == Attr{"spare", "room"}
}

func spoilDN(d DN) {
	for i := range d[:cap(d)] {
		d[:cap(d)][i] = Attr{"spoilt", "spoilt"}
	}
}

// The rules: what is handed in isn't changed, its spare room neither, also by a call that is refused.
func TestArgumentsAreNotChanged(t *testing.T) {
	r := rand.New(rand.NewSource(9))
	for range 1000 {
		limit := r.Intn(2) == 0
		g := drawnGeneral(r, limit)
		v, _ := g.Value(limit)
		d := drawnDN(r)
		w, _ := d.Value()
		oid, _ := OidValue(drawnOid(r))
		at, _ := TimeValue(r.Intn(api.MaxTime))
		for _, given := range []der.Value{v, w, oid, at, bentValue(r, v), bentValue(r, w)} {
			room := roomyValue(given)
			Oid(room)
			Time(room)
			ParseDN(room)
			ParseGeneral(room, limit)
			if !untouchedValue(room, given) {
				t.Fatalf("%+v was changed", given)
			}
		}
		for _, given := range []DN{d, g.Dir, bentDN(r, d)} {
			room, other := roomyDN(given), roomyDN(given)
			room.Value()
			General{Kind: 4, Dir: room}.Value(limit)
			SameDN(room, other)
			Within(General{Kind: 4, Dir: room}, General{Kind: 4, Dir: other[:len(other)/2]})
			if !untouchedDN(room, given) || !untouchedDN(other, given) {
				t.Fatalf("%q was changed", given)
			}
		}
	}
}

// The rules: what is told is new memory; it shares none with arguments, nor with other answers; and nothing is kept of arguments.
func TestAnswersAreNew(t *testing.T) {
	r := rand.New(rand.NewSource(10))
	for range 1000 {
		limit := r.Intn(2) == 0
		g := drawnGeneral(r, limit)
		want, _ := slowGeneral(g, limit)
		given := g
		given.Dir = roomyDN(g.Dir)
		first, _ := given.Value(limit)
		second, _ := given.Value(limit)
		spoilValue(first)
		if !untouchedDN(given.Dir, g.Dir) {
			t.Fatalf("%+v: an answer shares memory with an argument", g)
		}
		spoilDN(given.Dir)
		if !same(second, want) {
			t.Fatalf("%+v: an answer shares memory with another one, or with an argument", g)
		}
		held := roomyValue(want)
		one, _ := ParseGeneral(held, limit)
		two, _ := ParseGeneral(held, limit)
		spoilDN(one.Dir)
		if !untouchedValue(held, want) {
			t.Fatalf("%+v: an answer shares memory with an argument", g)
		}
		spoilValue(held)
		if !sameGeneral(two, g) {
			t.Fatalf("%+v: an answer shares memory with another one, or with an argument", g)
		}
	}
}

// The rules: the same of oids and times, and texts don't hang on the bytes that they were read from.
func TestShortAnswersAreNew(t *testing.T) {
	for _, f := range []func() der.Value{
		func() der.Value { v, _ := OidValue("1.2.840"); return v },
		func() der.Value { v, _ := TimeValue(0); return v },
		func() der.Value { v, _ := TimeValue(api.MaxTime); return v },
		func() der.Value { v, _ := DN{}.Value(); return v },
		func() der.Value { v, _ := DN{{"2.5.4.3", "a"}, {"2.5.4.3", "a"}}.Value(); return v },
	} {
		want := roomyValue(f())
		first := f()
		spoilValue(first)
		if !same(f(), want) {
			t.Errorf("%+v: two answers share memory", want)
		}
	}
	v := oidOf([]byte{42, 3})
	s, _ := Oid(v)
	d, _ := ParseDN(attrSeq(printable("a")))
	spoilValue(v)
	if s != "1.2.3" || d[0].Text != "a" {
		t.Error(s, d)
	}
}

// The rules: no two lists of one answer share memory, their spare room neither.
func TestListsAreApart(t *testing.T) {
	d := DN{{"2.5.4.3", "a"}, {"2.5.4.3", "a"}, {"2.5.4.3", "a"}}
	v, _ := General{Kind: 4, Dir: d}.Value(false)
	var lists [][]byte
	var kids [][]der.Value
	var walk func(v der.Value)
	walk = func(v der.Value) {
		if cap(v.Bytes) > 0 {
			lists = append(lists, v.Bytes[:cap(v.Bytes)])
		}
		if cap(v.Kids) > 0 {
			kids = append(kids, v.Kids[:cap(v.Kids)])
		}
		for _, kid := range v.Kids {
			walk(kid)
		}
	}
	walk(v)
	for i, list := range lists {
		for j := range list {
			list[j] = byte(i)
		}
	}
	for i, list := range lists {
		if slices.ContainsFunc(list, func(c byte) bool { return c != byte(i) }) {
			t.Error("two lists of bytes share memory")
		}
	}
	for i, list := range kids {
		for j := range list {
			list[j] = der.Value{Class: i}
		}
	}
	for i, list := range kids {
		if slices.ContainsFunc(list, func(v der.Value) bool { return v.Class != i }) {
			t.Error("two lists of kids share memory")
		}
	}
}

// The rules: beside an error, or a false, all else is zero.
func TestZeroBesideErrors(t *testing.T) {
	r := rand.New(rand.NewSource(11))
	for range 5000 {
		limit := r.Intn(2) == 0
		g := bentGeneral(r, drawnGeneral(r, limit))
		if v, e := g.Value(limit); e != api.OK && !isZero(v) {
			t.Fatalf("%+v beside %d", v, e)
		}
		if v, e := bentDN(r, drawnDN(r)).Value(); e != api.OK && !isZero(v) {
			t.Fatalf("%+v beside %d", v, e)
		}
		right := drawnGeneral(r, limit)
		v, _ := right.Value(limit)
		if got, e := ParseGeneral(bentValue(r, v), limit); e != api.OK && !sameGeneral(got, General{}) {
			t.Fatalf("%+v beside %d", got, e)
		}
		w, _ := drawnDN(r).Value()
		if got, e := ParseDN(bentValue(r, w)); e != api.OK && len(got) > 0 {
			t.Fatalf("%+v beside %d", got, e)
		}
	}
}

// The rules: calls hang on their arguments alone, also while others run.
func TestCallsAtOneTime(t *testing.T) {
	r := rand.New(rand.NewSource(12))
	var group sync.WaitGroup
	for range 20 {
		n, limit, at := drawnGeneral(r, false), drawnGeneral(r, true), r.Intn(api.MaxTime)
		limit.Kind = n.Kind
		want, inside := n, slowWithin(n, limit)
		for range 2 {
			group.Go(func() {
				v, e := n.Value(false)
				got, f := ParseGeneral(v, false)
				w, g := TimeValue(at)
				back, h := Time(w)
				if e != api.OK || f != api.OK || g != api.OK || h != api.OK || !sameGeneral(got, want) || back != at || Within(n, limit) != inside {
					t.Error("answered otherwise")
				}
			})
		}
	}
	group.Wait()
}

// P1: values that hold themselves end in an error.
func TestValuesWithinThemselves(t *testing.T) {
	kids := make([]der.Value, 1)
	kids[0] = der.Value{Tag: 16, Made: true, Kids: kids}
	v := kids[0]
	if _, e := ParseDN(v); e != api.ErrForm {
		t.Error(e)
	}
	v.Class, v.Tag = 2, 4
	if _, e := ParseGeneral(v, true); e != api.ErrForm {
		t.Error(e)
	}
	if _, ok := Oid(v); ok {
		t.Error("an oid")
	}
	if _, e := Time(v); e != api.ErrForm {
		t.Error(e)
	}
}
