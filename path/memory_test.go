package path

import (
	"reflect"
	"slices"
	"sync"
	"testing"

	"chancery/api"
	"chancery/cert"
	"chancery/name"
)

// rooms calls visit with every list within v, as long as it has room; those in spare room too.
func rooms(v reflect.Value, visit func(list reflect.Value)) {
	switch v.Kind() {
	case reflect.Struct:
		for i := range v.NumField() {
			rooms(v.Field(i), visit)
		}
	case reflect.Slice:
		all := v.Slice(0, v.Cap())
		for i := range all.Len() {
			rooms(all.Index(i), visit)
		}
		if all.Len() > 0 {
			visit(all)
		}
	}
}

// roomy is x anew, all lists of it with spare room, in which something stands.
func roomy[T any](x T) T { return roomily(reflect.ValueOf(x)).Interface().(T) }

func roomily(v reflect.Value) reflect.Value {
	out := reflect.New(v.Type()).Elem()
	switch v.Kind() {
	case reflect.Struct:
		for i := range v.NumField() {
			out.Field(i).Set(roomily(v.Field(i)))
		}
	case reflect.Slice:
		out.Set(reflect.MakeSlice(v.Type(), v.Len()+1, v.Len()+1))
		for i := range v.Len() {
			out.Index(i).Set(roomily(v.Index(i)))
		}
		mark(out.Index(v.Len()))
		out.Set(out.Slice(0, v.Len()))
	default:
		out.Set(v)
	}
	return out
}

// mark sets an item.
func mark(v reflect.Value) {
	switch v.Kind() {
	case reflect.Uint8:
		v.SetUint(v.Uint() ^ 0xa5)
	case reflect.Int:
		v.SetInt(v.Int() + 77)
	case reflect.String:
		v.SetString("marked")
	case reflect.Struct:
		for i := range v.NumField() {
			mark(v.Field(i))
		}
	}
}

// spoil writes over all the lists of x, and their spare room.
func spoil(x any) {
	rooms(reflect.ValueOf(x), func(list reflect.Value) {
		for i := range list.Len() {
			mark(list.Index(i))
		}
	})
}

// whole is x with its lists as long as they have room.
func whole(x any) any {
	var widen func(v reflect.Value) reflect.Value
	widen = func(v reflect.Value) reflect.Value {
		out := reflect.New(v.Type()).Elem()
		switch v.Kind() {
		case reflect.Struct:
			for i := range v.NumField() {
				out.Field(i).Set(widen(v.Field(i)))
			}
		case reflect.Slice:
			for i := range v.Cap() {
				out.Set(reflect.Append(out, widen(v.Slice(0, v.Cap()).Index(i))))
			}
		default:
			out.Set(v)
		}
		return out
	}
	return widen(reflect.ValueOf(x)).Interface()
}

// A call is what Build is asked; the other calls take parts of it.
type call struct {
	leaf        cert.Cert
	pool, roots []cert.Cert
}

// all asks everything of the package that a call may be asked.
func (x call) all() {
	Build(x.leaf, x.pool, x.roots, during)
	Build(x.leaf, nil, x.roots, during)
	Validate(x.pool, x.roots, during)
	Validate(append([]cert.Cert{x.leaf}, x.pool...), x.roots, during)
	for _, c := range append([]cert.Cert{x.leaf}, x.pool...) {
		Signed(c, testScheme, x.roots[0].Key)
		for _, n := range Names(c) {
			Keeps(n, c)
			Keeps(n, x.leaf)
		}
	}
}

// fullCall has something in each list, and its answer is a chain of four certificates.
func fullCall() call {
	chain, roots := ladder(4, func(c []cert.Cert) {
		for i := range c {
			c[i].Alt = []name.General{machine("a.b"), dir(dn(7)), {Kind: 1, Text: "x@a.b"}}
			c[i].Permit = []name.General{machine("b"), dir(nil)}
			c[i].Exclude = []name.General{machine("c"), dir(dn(9)), dir(dn(10))}
		}
	})
	roots[0].Alt, roots[0].Issuer, roots[0].Sig = chain[0].Alt, dn(4), []byte{1}
	lost := chain[1]
	lost.To = 20
	return call{chain[0], append([]cert.Cert{sign(2, lost)}, chain[1:]...), roots}
}

// The rules: what is handed in isn't changed, its spare room neither, also by a call that is refused.
func TestArgumentsAreNotChanged(t *testing.T) {
	x := fullCall()
	wrong := fullCall()
	wrong.leaf.Sig[0]++
	wrong.pool = append(wrong.pool, make([]cert.Cert, 40)...)
	for _, plain := range []call{x, wrong} {
		given := call{roomy(plain.leaf), roomy(plain.pool), roomy(plain.roots)}
		given.all()
		for i, pair := range [][2]any{{given.leaf, roomy(plain.leaf)}, {given.pool, roomy(plain.pool)}, {given.roots, roomy(plain.roots)}} {
			if !reflect.DeepEqual(whole(pair[0]), whole(pair[1])) {
				t.Errorf("argument %d was changed", i)
			}
		}
	}
}

// The rules: what is told is new memory: it shares none with an argument, or with another answer.
func TestAnswersAreNew(t *testing.T) {
	plain := fullCall()
	want := append([]cert.Cert{plain.leaf}, plain.pool[1:]...)
	given := call{roomy(plain.leaf), roomy(plain.pool), roomy(plain.roots)}
	first := must(Build(given.leaf, given.pool, given.roots, during))
	second := must(Build(given.leaf, given.pool, given.roots, during))
	if !same(first, want) {
		t.Fatal(serials(first))
	}
	names, again := Names(given.leaf), Names(given.leaf)
	spoil(first)
	spoil(names)
	if !reflect.DeepEqual(whole(given.leaf), whole(roomy(plain.leaf))) || !reflect.DeepEqual(whole(given.pool), whole(roomy(plain.pool))) {
		t.Error("an answer shares memory with an argument")
	}
	spoil(given.leaf)
	spoil(given.pool)
	spoil(given.roots)
	if !same(second, want) || !same(again, slowNames(plain.leaf)) {
		t.Error("an answer shares memory with another one, or with an argument")
	}
}

// apart tells whether no two lists of x share memory, their spare room neither.
func apart(x any) bool {
	type span struct{ from, to uintptr }
	var spans []span
	rooms(reflect.ValueOf(x), func(list reflect.Value) {
		from := list.Pointer()
		spans = append(spans, span{from, from + uintptr(list.Len())*list.Type().Elem().Size()})
	})
	for i, a := range spans {
		for _, b := range spans[:i] {
			if a.from < b.to && b.from < a.to {
				return false
			}
		}
	}
	return true
}

// The rules: no two lists of one answer share memory, also if those of the arguments do.
func TestListsAreApart(t *testing.T) {
	shared := []name.General{dir(dn(1)), dir(dn(1))}
	shared[1].Dir = shared[0].Dir
	own := about(1, 1)
	own.Issuer, own.Subject = shared[0].Dir, shared[0].Dir
	own.Alt, own.Permit = shared, shared
	own = sign(1, own)
	end := about(1, 2)
	end.Key = own.Key
	end = sign(2, end)
	got := must(Build(own, []cert.Cert{own, own, end}, []cert.Cert{rootOf(2)}, during))
	if len(got) != 4 || !same(got, []cert.Cert{own, own, own, end}) {
		t.Fatal(serials(got))
	}
	if !apart(got) {
		t.Error("two lists of a chain share memory")
	}
	if !apart(Names(own)) {
		t.Error("two lists of names share memory")
	}
}

// The rules: nil and empty lists are one.
func TestNilAndEmpty(t *testing.T) {
	plain := about(0, 1)
	plain.Subject, plain.Issuer = nil, nil
	plain = sign(1, plain)
	empty := plain
	empty.Subject, empty.Issuer = name.DN{}, name.DN{}
	empty.Alt, empty.Permit, empty.Exclude = []name.General{}, []name.General{}, []name.General{}
	for _, leaf := range []cert.Cert{plain, empty} {
		for _, subject := range []name.DN{nil, {}} {
			root := rootOf(1)
			root.Subject = subject
			if !Signed(leaf, 9, root.Key) || len(Names(leaf)) > 0 || !Keeps(machine("a"), leaf) {
				t.Error("a certificate with empty lists is another one")
			}
			if e := Validate([]cert.Cert{leaf}, []cert.Cert{root}, during); e != api.OK {
				t.Error(e)
			}
			for _, pool := range [][]cert.Cert{nil, {}} {
				if got, e := Build(leaf, pool, []cert.Cert{root}, during); e != api.OK || !same(got, []cert.Cert{plain}) {
					t.Error(got, e)
				}
				if got, e := Build(leaf, pool, pool, during); e != api.ErrNone || len(got) > 0 {
					t.Error(got, e)
				}
			}
		}
	}
}

// The rules: calls hang on their arguments alone, also while others run.
func TestCallsAtOneTime(t *testing.T) {
	x := fullCall()
	want := append([]cert.Cert{x.leaf}, x.pool[1:]...)
	var group sync.WaitGroup
	for range 8 {
		group.Go(func() {
			got, e := Build(x.leaf, x.pool, x.roots, during)
			if e != api.OK || !same(got, want) || Validate(want, x.roots, during) != api.OK || !slices.EqualFunc(Names(x.leaf), slowNames(x.leaf), func(a, b name.General) bool { return same(a, b) }) {
				t.Error("answered otherwise")
			}
		})
	}
	group.Wait()
}
