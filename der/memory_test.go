package der

import (
	"bytes"
	"math/rand"
	"slices"
	"sync"
	"testing"

	"chancery/api"
)

// roomy is b with spare room behind it, in which something stands.
func roomy(b []byte) []byte {
	all := append(slices.Clone(b), bytes.Repeat([]byte{0xa5}, 100)...)
	return all[:len(b)]
}

// untouched tells whether a roomy b is as it was made of b.
func untouched(got, b []byte) bool {
	room := got[:len(b)+100]
	return bytes.Equal(room[:len(b)], b) && bytes.Equal(room[len(b):], bytes.Repeat([]byte{0xa5}, 100))
}

// spoil writes over bytes and their spare room.
func spoil(b []byte) {
	for i := range b[:cap(b)] {
		b[:cap(b)][i] ^= 0xff
	}
}

// spoilValue writes over all the lists of a value, and their spare room.
func spoilValue(v Value) {
	spoil(v.Bytes)
	for _, kid := range v.Kids {
		spoilValue(kid)
	}
	for i := range v.Kids[:cap(v.Kids)] {
		v.Kids[:cap(v.Kids)][i] = Value{Class: 9}
	}
}

// roomyValue is v, all lists of it with spare room, in which something stands.
func roomyValue(v Value) Value {
	v.Bytes = roomy(v.Bytes)
	kids := make([]Value, len(v.Kids), len(v.Kids)+3)
	for i, kid := range v.Kids {
		kids[i] = roomyValue(kid)
	}
	for i := range kids[len(kids):cap(kids)] {
		kids[:cap(kids)][len(kids)+i] = Value{Class: 7}
	}
	v.Kids = kids
	return v
}

// untouchedValue tells whether a roomy v is as it was made of v.
func untouchedValue(got, v Value) bool {
	if !untouched(got.Bytes, v.Bytes) || len(got.Kids) != len(v.Kids) {
		return false
	}
	for i, kid := range v.Kids {
		if !untouchedValue(got.Kids[i], kid) {
			return false
		}
	}
	for _, kid := range got.Kids[len(v.Kids):cap(got.Kids)] {
		if kid.Class != 7 {
			return false
		}
	}
	return got.Class == v.Class && got.Tag == v.Tag && got.Made == v.Made
}

// The rules: what is handed in isn't changed, its spare room neither, also by a call that is refused.
func TestArgumentsAreNotChanged(t *testing.T) {
	r := rand.New(rand.NewSource(12))
	for range 300 {
		v := drawn(r, 4)
		b, _ := slowWrite(v)
		for _, given := range [][]byte{b, bent(r, b), append(slices.Clone(b), 0)} {
			room := roomy(given)
			Read(room)
			if !untouched(room, given) {
				t.Fatalf("%x was changed", given)
			}
		}
		for _, given := range []Value{v, wrong(r, v), seq(v, Value{})} {
			room := roomyValue(given)
			Write(room)
			if !untouchedValue(room, given) {
				t.Fatalf("%+v was changed", given)
			}
		}
	}
}

// The rules: what is told is new memory; it shares none with arguments, nor with other answers.
func TestAnswersAreNew(t *testing.T) {
	r := rand.New(rand.NewSource(13))
	for range 300 {
		v := drawn(r, 4)
		b, _ := slowWrite(v)
		given, held := slices.Clone(b), roomyValue(v)
		first, _ := Read(given)
		second, _ := Read(given)
		one, _ := Write(held)
		two, _ := Write(held)
		spoilValue(first)
		spoil(one)
		if !same(second, v) || !bytes.Equal(two, b) {
			t.Fatalf("%x: two answers share memory", b)
		}
		if !bytes.Equal(given, b) || !untouchedValue(held, v) {
			t.Fatalf("%x: an answer shares memory with an argument", b)
		}
	}
}

// The rules: no two lists of one answer share memory, their spare room neither.
func TestListsAreApart(t *testing.T) {
	v, e := Read(unhex(t, "30 0c 04 01 01 04 01 02 30 04 04 00 04 00"))
	if e != api.OK {
		t.Fatal(e)
	}
	spoil(v.Kids[0].Bytes)
	if !bytes.Equal(v.Kids[1].Bytes, []byte{2}) {
		t.Error("two lists of bytes share memory")
	}
	kids := v.Kids[2].Kids
	_ = append(v.Kids, Value{Class: 9})
	_ = append(kids[0].Bytes, 9)
	if kids[0].Class != 0 || len(kids[1].Bytes) != 0 {
		t.Error("two lists of kids share memory")
	}
}

// The rules: what is handed in isn't kept: it may be written over behind the call.
func TestNothingIsKept(t *testing.T) {
	r := rand.New(rand.NewSource(14))
	for range 300 {
		v := drawn(r, 4)
		want, _ := slowWrite(v)
		given, held := roomy(want), roomyValue(v)
		read, _ := Read(given)
		written, _ := Write(held)
		spoil(given)
		spoilValue(held)
		if !same(read, v) || !bytes.Equal(written, want) {
			t.Fatalf("%x: an answer hangs on the argument's memory", want)
		}
	}
}

// The rules: beside an error all else is zero.
func TestZeroBesideErrors(t *testing.T) {
	r := rand.New(rand.NewSource(15))
	for range 2000 {
		v := drawn(r, 4)
		b, _ := slowWrite(v)
		if got, e := Read(bent(r, b)); e != api.OK && (got.Class != 0 || got.Tag != 0 || got.Made || len(got.Bytes) > 0 || len(got.Kids) > 0) {
			t.Fatalf("%+v beside %d", got, e)
		}
		if got, e := Write(wrong(r, v)); e != api.OK && len(got) > 0 {
			t.Fatalf("%x beside %d", got, e)
		}
	}
}

// The rules: calls hang on their arguments alone, also while others run.
func TestCallsAtOneTime(t *testing.T) {
	r := rand.New(rand.NewSource(16))
	var group sync.WaitGroup
	for range 20 {
		v := drawn(r, 4)
		b, _ := slowWrite(v)
		for range 2 {
			group.Go(func() {
				read, e := Read(b)
				written, f := Write(v)
				if e != api.OK || f != api.OK || !same(read, v) || !bytes.Equal(written, b) {
					t.Error("answered otherwise")
				}
			})
		}
	}
	group.Wait()
}
