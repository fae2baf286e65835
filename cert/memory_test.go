package cert

import (
	"bytes"
	"math/rand"
	"reflect"
	"sync"
	"testing"

	"chancery/api"
)

// lists calls visit with every list within v, its spare room too.
func lists(v reflect.Value, visit func(list reflect.Value)) {
	switch v.Kind() {
	case reflect.Struct:
		for i := range v.NumField() {
			lists(v.Field(i), visit)
		}
	case reflect.Slice:
		for i := range v.Len() {
			lists(v.Index(i), visit)
		}
		visit(v.Slice(0, v.Cap()))
	}
}

// spoil writes over all the lists of x, and their spare room.
func spoil(x thing) {
	lists(reflect.ValueOf(x), func(list reflect.Value) {
		for i := range list.Len() {
			item := list.Index(i)
			if item.Kind() == reflect.Uint8 {
				item.SetUint(item.Uint() ^ 0xff)
			} else {
				item.SetZero()
			}
		}
	})
}

// roomy is x anew, all lists of it with spare room, in which something stands.
func roomy(x thing) thing { return roomily(reflect.ValueOf(x)).Interface().(thing) }

func roomily(v reflect.Value) reflect.Value {
	out := reflect.New(v.Type()).Elem()
	switch v.Kind() {
	case reflect.Struct:
		for i := range v.NumField() {
			out.Field(i).Set(roomily(v.Field(i)))
		}
	case reflect.Slice:
		out.Set(reflect.MakeSlice(v.Type(), v.Len()+2, v.Len()+2))
		for i := range v.Len() {
			out.Index(i).Set(roomily(v.Index(i)))
		}
		for i := v.Len(); i < v.Len()+2; i++ {
			mark(out.Index(i))
		}
		out.Set(out.Slice(0, v.Len()))
	default:
		out.Set(v)
	}
	return out
}

// mark sets an item of spare room.
func mark(v reflect.Value) {
	switch v.Kind() {
	case reflect.Uint8:
		v.SetUint(0xa5)
	case reflect.Int:
		v.SetInt(77)
	case reflect.String:
		v.SetString("spare")
	case reflect.Struct:
		for i := range v.NumField() {
			mark(v.Field(i))
		}
	}
}

// whole is x with its lists as long as they have room.
func whole(v reflect.Value) reflect.Value {
	out := reflect.New(v.Type()).Elem()
	switch v.Kind() {
	case reflect.Struct:
		for i := range v.NumField() {
			out.Field(i).Set(whole(v.Field(i)))
		}
	case reflect.Slice:
		out.Set(reflect.MakeSlice(v.Type(), v.Cap(), v.Cap()))
		for i := range v.Cap() {
			out.Index(i).Set(whole(v.Slice(0, v.Cap()).Index(i)))
		}
	default:
		out.Set(v)
	}
	return out
}

func untouched(room, x thing) bool {
	return reflect.DeepEqual(whole(reflect.ValueOf(room)).Interface(), whole(reflect.ValueOf(roomy(x))).Interface())
}

// The rules: what is handed in isn't changed, its spare room neither, also by a call that is refused.
func TestArgumentsAreNotChanged(t *testing.T) {
	r := rand.New(rand.NewSource(8))
	for range 50 {
		for _, k := range kinds {
			x := k.draw(r)
			for _, given := range []thing{x, bent(r, x)} {
				room := roomy(given)
				room.Tbs()
				room.Encode()
				if !untouched(room, given) {
					t.Fatalf("%+v was changed", given)
				}
			}
			b, _ := x.Encode()
			if len(b) == 0 {
				continue
			}
			for range 2 {
				room := append(bytes.Clone(b), 0xa5, 0xa5, 0xa5)
				k.parse(room[:len(b)])
				if !bytes.Equal(room[:len(b)], b) || !bytes.Equal(room[len(b):], []byte{0xa5, 0xa5, 0xa5}) {
					t.Fatalf("%x was changed", b)
				}
				b[r.Intn(len(b))] ^= 1
			}
		}
	}
}

// The rules: what is told is new memory; it shares none with arguments, nor with other answers; and nothing is kept of arguments.
func TestAnswersAreNew(t *testing.T) {
	r := rand.New(rand.NewSource(9))
	for range 200 {
		for _, k := range kinds {
			x := k.draw(r)
			want, e := slowEncode(x)
			if e != api.OK {
				continue
			}
			tbs, _ := slowTbs(x)
			given := roomy(x)
			first, _ := given.Encode()
			second, _ := given.Encode()
			third, _ := given.Tbs()
			fourth, _ := given.Tbs()
			spoilBytes(first)
			spoilBytes(third)
			if !untouched(given, x) {
				t.Fatalf("%+v: an answer shares memory with an argument", x)
			}
			spoil(given)
			if !bytes.Equal(second, want) || !bytes.Equal(fourth, tbs) {
				t.Fatalf("%+v: an answer shares memory with another one, or with an argument", x)
			}
			room := append(bytes.Clone(want), 0xa5, 0xa5, 0xa5)
			one, _ := k.parse(room[:len(want)])
			two, _ := k.parse(room[:len(want)])
			spoil(one)
			if !bytes.Equal(room[:len(want)], want) || !bytes.Equal(room[len(want):], []byte{0xa5, 0xa5, 0xa5}) {
				t.Fatalf("%x: an answer shares memory with an argument", want)
			}
			spoilBytes(room)
			if !same(two, placed(x)) {
				t.Fatalf("%+v: an answer shares memory with another one, or with an argument", x)
			}
		}
	}
}

func spoilBytes(b []byte) {
	for i := range b[:cap(b)] {
		b[:cap(b)][i] ^= 0xff
	}
}

// The rules: no two lists of one answer share memory, their spare room neither.
func TestListsAreApart(t *testing.T) {
	r := rand.New(rand.NewSource(10))
	for range 300 {
		for _, k := range kinds {
			b, e := k.draw(r).Encode()
			if e != api.OK {
				continue
			}
			x, _ := k.parse(b)
			var from, to []uintptr
			lists(reflect.ValueOf(x), func(list reflect.Value) {
				if list.Len() > 0 {
					start := list.Pointer()
					from = append(from, start)
					to = append(to, start+uintptr(list.Len())*list.Type().Elem().Size())
				}
			})
			for i := range from {
				for j := range i {
					if from[i] < to[j] && from[j] < to[i] {
						t.Fatalf("two lists of %+v share memory", x)
					}
				}
			}
		}
	}
}

// The rules: beside an error all else is zero.
func TestZeroBesideErrors(t *testing.T) {
	r := rand.New(rand.NewSource(11))
	for range 300 {
		for _, k := range kinds {
			x := k.draw(r)
			y := bent(r, x)
			if b, e := y.Tbs(); e != api.OK && len(b) > 0 {
				t.Fatalf("%x beside %d", b, e)
			}
			if b, e := y.Encode(); e != api.OK && len(b) > 0 {
				t.Fatalf("%x beside %d", b, e)
			}
			b, e := x.Encode()
			if e != api.OK {
				continue
			}
			b[r.Intn(min(len(b), 60))] ^= 1 << r.Intn(8)
			if back, e := k.parse(b); e != api.OK && !same(back, k.none) {
				t.Fatalf("%+v beside %d", back, e)
			}
		}
	}
}

// The rules: nil and empty lists are one, in what is handed in.
func TestNilAndEmpty(t *testing.T) {
	for _, x := range []thing{
		Cert{Serial: 1, Scheme: 1, KeyScheme: 1, Path: -1},
		Request{KeyScheme: 1, Scheme: 1},
		List{Scheme: 1},
		Answer{Key: make([]byte, 32), Scheme: 1},
		Head{Root: make([]byte, 32), Scheme: 1},
	} {
		empty := roomy(x)
		b, e := x.Encode()
		c, f := empty.Encode()
		if e != api.OK || f != api.OK || !bytes.Equal(b, c) {
			t.Errorf("%+v: %x, %d and %x, %d", x, b, e, c, f)
		}
	}
}

// The rules: calls hang on their arguments alone, also while others run.
func TestCallsAtOneTime(t *testing.T) {
	r := rand.New(rand.NewSource(12))
	var group sync.WaitGroup
	for _, k := range kinds {
		for range 5 {
			x := k.draw(r)
			want, e := slowEncode(x)
			for range 2 {
				group.Go(func() {
					b, f := x.Encode()
					back, g := k.parse(want)
					if f != e || !bytes.Equal(b, want) || e == api.OK && (g != api.OK || !same(back, placed(x))) {
						t.Error("answered otherwise")
					}
				})
			}
		}
	}
	group.Wait()
}
