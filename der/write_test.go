package der

import (
	"bytes"
	"math/rand"
	"slices"
	"testing"

	"chancery/api"
)

// drawn is a right value with so many levels at most.
func drawn(r *rand.Rand, levels int) Value {
	class := 0
	if r.Intn(3) == 0 {
		class = 1 + r.Intn(3)
	}
	v := Value{Class: class, Made: levels > 1 && r.Intn(3) > 0}
	switch {
	case class > 0:
		v.Tag = []int{r.Intn(31), 30, 31, r.Intn(128), 127, 128, r.Intn(16384), 16383, 16384, r.Intn(1 << 21), 1<<21 - 1}[r.Intn(11)]
	case v.Made:
		v.Tag = 16 + r.Intn(2)
	default:
		v.Tag = []int{1, 2, 3, 4, 5, 6, 10, 12, 19, 22, 23, 24}[r.Intn(12)]
	}
	if !v.Made {
		v.Bytes = drawnBytes(r, class, v.Tag)
		return v
	}
	for range r.Intn(5) {
		kid := drawn(r, levels-1)
		v.Kids = append(v.Kids, kid)
		if r.Intn(4) == 0 {
			v.Kids = append(v.Kids, kid)
		}
	}
	if class == 0 && v.Tag == 17 {
		slices.SortFunc(v.Kids, func(a, b Value) int { return bytes.Compare(slowBytes(a, 0), slowBytes(b, 0)) })
	}
	return v
}

func drawnBytes(r *rand.Rand, class, tag int) []byte {
	b := make([]byte, r.Intn(6))
	if r.Intn(20) == 0 {
		b = make([]byte, []int{126, 127, 128, 129, 255, 256, 257}[r.Intn(7)])
	}
	r.Read(b)
	if class > 0 || tag == 4 {
		return b
	}
	switch tag {
	case 1:
		return []byte{byte(-r.Intn(2))}
	case 3:
		b = append([]byte{byte(r.Intn(8))}, append(b, byte(r.Intn(256)))...)
		b[len(b)-1] &^= 1<<b[0] - 1
		return b
	case 5:
		return nil
	case 12:
		return []byte(string([]rune{rune(r.Intn(128)), 'é', rune(r.Intn(0xd800)), 0x10ffff}[:r.Intn(5)]))
	case 19:
		for i, c := range b {
			b[i] = slowPrintable[int(c)%len(slowPrintable)]
		}
		return b
	case 22:
		for i, c := range b {
			b[i] = c % 128
		}
		return b
	case 23:
		return []byte([]string{"700101000000Z", "491231235959Z", "500228235959Z", "000229010203Z"}[r.Intn(4)])
	case 24:
		return []byte([]string{"19700101000000Z", "99991231235959Z", "20000229235959Z", "19000228010203Z"}[r.Intn(4)])
	}
	for !slowRight(tag, b) {
		b = make([]byte, 1+r.Intn(4))
		r.Read(b)
	}
	return b
}

// checkWrite holds Write against the slow one, and what is written against what is read of it.
func checkWrite(t *testing.T, v Value) api.Errno {
	t.Helper()
	b, e := Write(v)
	want, wantE := slowWrite(v)
	if e != wantE || !bytes.Equal(b, want) {
		t.Fatalf("%+v: %x, %d, not %x, %d", v, b, e, want, wantE)
	}
	if e != api.OK {
		return e
	}
	if back, f := Read(b); f != api.OK || !same(back, v) {
		t.Fatalf("%+v is read as %+v, %d", v, back, f)
	}
	return e
}

func seq(kids ...Value) Value { return Value{Tag: 16, Made: true, Kids: kids} }

func set(kids ...Value) Value { return Value{Tag: 17, Made: true, Kids: kids} }

// P9.2: the error of the value, also where several apply.
func TestWriteErrors(t *testing.T) {
	five, null, none := Value{Tag: 2, Bytes: []byte{5}}, Value{Tag: 5}, Value{Tag: 2}
	six, big := Value{Tag: 2, Bytes: []byte{6}}, Value{Tag: 4, Bytes: make([]byte, 65533)}
	for i, x := range []struct {
		v    Value
		want api.Errno
	}{
		{five, api.OK}, {seq(), api.OK}, {seq(six, five), api.OK}, {Value{Class: 3, Tag: 1<<21 - 1}, api.OK}, {Value{Class: 1}, api.OK},
		// The class and the tag.
		{Value{Class: -1}, api.ErrTag}, {Value{Class: 4}, api.ErrTag}, {Value{Class: 1 << 62, Tag: 2}, api.ErrTag}, {Value{Class: 1, Tag: -1}, api.ErrTag},
		{Value{Class: 1, Tag: 1 << 21}, api.ErrTag}, {Value{Class: 1, Tag: 1 << 62}, api.ErrTag}, {Value{Class: -4, Tag: 5}, api.ErrTag}, {Value{Class: 256, Tag: 5}, api.ErrTag},
		{Value{Class: 4, Made: true, Bytes: []byte{1}}, api.ErrTag}, {Value{Class: 1, Tag: -1, Kids: []Value{none}}, api.ErrTag}, {Value{Tag: -1 << 63}, api.ErrTag}, {Value{Tag: 2 + 32}, api.ErrTag},
		// The tag and form of a universal one, ahead of its bytes and kids.
		{Value{}, api.ErrTag}, {Value{Tag: 16}, api.ErrTag}, {Value{Tag: 17}, api.ErrTag}, {Value{Tag: 7}, api.ErrTag}, {Value{Tag: 31}, api.ErrTag}, {Value{Tag: 4, Made: true}, api.ErrTag},
		{Value{Tag: 2, Made: true, Bytes: []byte{5}}, api.ErrTag}, {Value{Tag: 16, Kids: []Value{five}}, api.ErrTag}, {Value{Tag: 7, Made: true, Kids: []Value{none}}, api.ErrTag},
		// Bytes and kids where none belong, ahead of what is wrong in them.
		{Value{Tag: 16, Made: true, Bytes: []byte{1}}, api.ErrValue}, {Value{Class: 2, Made: true, Bytes: []byte{1}}, api.ErrValue}, {Value{Tag: 4, Kids: []Value{five}}, api.ErrValue},
		{Value{Class: 2, Kids: []Value{{Tag: 7}}}, api.ErrValue}, {Value{Tag: 16, Made: true, Bytes: []byte{1}, Kids: []Value{{Tag: 7}}}, api.ErrValue}, {none, api.ErrValue},
		{Value{Tag: 17, Made: true, Bytes: []byte{1}, Kids: []Value{six, five}}, api.ErrValue}, {Value{Tag: 2, Bytes: []byte{0, 5}}, api.ErrValue},
		{Value{Class: 2, Made: true, Bytes: []byte{}}, api.OK}, {Value{Class: 2, Bytes: []byte{5}, Kids: []Value{}}, api.OK},
		// Kids, one behind the other.
		{seq(null, none), api.ErrValue}, {seq(none, Value{Tag: 7}), api.ErrValue}, {seq(Value{Tag: 7}, none), api.ErrTag}, {seq(set(six, five), none), api.ErrOrder}, {seq(none, set(six, five)), api.ErrValue},
		{Value{Class: 1, Made: true, Kids: []Value{seq(null, none)}}, api.ErrValue},
		// The order of a set, behind its kids.
		{set(five, six), api.OK}, {set(five, five), api.OK}, {set(six, five), api.ErrOrder}, {set(six, five, none), api.ErrValue}, {set(null, five), api.ErrOrder}, {set(five, null), api.OK},
		{Value{Class: 1, Tag: 17, Made: true, Kids: []Value{six, five}}, api.OK}, {set(Value{Tag: 2, Bytes: []byte{0, 128}}, Value{Tag: 2, Bytes: []byte{127}}), api.ErrOrder},
		{set(Value{Class: 2, Tag: 16383}, Value{Class: 2, Tag: 16384}), api.ErrOrder}, {set(Value{Class: 2, Tag: 16384}, Value{Class: 2, Tag: 16383}), api.OK},
		{set(seq(five, six), seq(five, five)), api.ErrOrder}, {set(seq(five, five), seq(five, six)), api.OK}, {set(seq(five), seq()), api.ErrOrder},
		{set(seq(five, null), seq(Value{Tag: 2, Bytes: []byte{5, 5, 0}})), api.OK}, {set(five, six, five), api.ErrOrder}, {set(seq(six), five), api.ErrOrder},
		// Its size, behind all.
		{big, api.ErrBig}, {seq(big, none), api.ErrValue}, {seq(big, set(six, five)), api.ErrOrder}, {set(big, five), api.ErrOrder}, {set(five, big), api.ErrBig}, {set(big, big, six), api.ErrOrder},
		{Value{Tag: 16, Bytes: make([]byte, 70000)}, api.ErrTag}, {Value{Tag: 5, Bytes: make([]byte, 70000)}, api.ErrValue},
	} {
		if e := checkWrite(t, x.v); e != x.want {
			t.Errorf("%d: %d, not %d", i, e, x.want)
		}
	}
}

// P9.2: just at the most bytes, and one more; by the bytes, and by the heads of kids.
func TestWriteBig(t *testing.T) {
	for n := 65527; n <= 65537; n++ {
		for i, x := range []struct {
			v    Value
			head int
		}{
			{Value{Tag: 4, Bytes: make([]byte, n)}, 4},
			{Value{Class: 2, Tag: 31, Bytes: make([]byte, n)}, 5},
			{Value{Class: 2, Tag: 1 << 14, Bytes: make([]byte, n)}, 7},
			{seq(Value{Tag: 4, Bytes: make([]byte, n)}), 8},
		} {
			if e := checkWrite(t, x.v); (e == api.ErrBig) != (n+x.head > api.MaxBytes) {
				t.Errorf("%d of %d: %d", i, n, e)
			}
		}
	}
	nulls := make([]Value, 32766)
	for i := range nulls {
		nulls[i].Tag = 5
	}
	if e := checkWrite(t, seq(nulls...)); e != api.OK {
		t.Error(e)
	}
	if e := checkWrite(t, seq(append(nulls, Value{Tag: 5})...)); e != api.ErrBig {
		t.Error(e)
	}
}

// P9.2: a value within as many others as may be, and within one more: ahead of all that is wrong in it.
func TestWriteDeep(t *testing.T) {
	for i, v := range []Value{{Tag: 5}, {Class: 2, Made: true}, {Tag: 7}, {Class: -1}, {Tag: 2}, {Tag: 16, Made: true, Bytes: []byte{1}}, {Tag: 4, Bytes: make([]byte, 70000)}} {
		for within := range 40 {
			if e := checkWrite(t, v); (e == api.ErrDeep) != (within > api.MaxDepth) {
				t.Errorf("%d within %d: %d", i, within, e)
			}
			v = seq(v)
		}
	}
	inner := seq(set(Value{Tag: 5}, Value{Tag: 4}))
	for range 14 {
		inner = seq(inner)
	}
	if e := checkWrite(t, inner); e != api.ErrOrder {
		t.Error(e)
	}
	if e := checkWrite(t, seq(inner)); e != api.ErrDeep {
		t.Error(e)
	}
}

// P1: a value that holds itself is too deep, too.
func TestWriteRound(t *testing.T) {
	kids := make([]Value, 2)
	kids[0] = Value{Tag: 5}
	kids[1] = Value{Tag: 17, Made: true, Kids: kids}
	if b, e := Write(kids[1]); e != api.ErrDeep || b != nil {
		t.Error(e)
	}
}

// wrong is v with something wrong put somewhere in it, maybe.
func wrong(r *rand.Rand, v Value) Value {
	if len(v.Kids) > 0 && r.Intn(3) > 0 {
		v.Kids = slices.Clone(v.Kids)
		i := r.Intn(len(v.Kids))
		v.Kids[i] = wrong(r, v.Kids[i])
		return v
	}
	switch r.Intn(8) {
	case 0:
		v.Class = r.Intn(6) - 1
	case 1:
		v.Tag = r.Intn(40) - 1
	case 2:
		v.Tag += 1 << 21
	case 3:
		v.Made = !v.Made
	case 4:
		v.Bytes = append(slices.Clone(v.Bytes), byte(r.Intn(256)))
	case 5:
		v.Kids = append(slices.Clone(v.Kids), Value{Tag: 5})
	case 6:
		v.Bytes = bent(r, v.Bytes)
	default:
		v.Kids = slices.Clone(v.Kids)
		r.Shuffle(len(v.Kids), func(i, j int) { v.Kids[i], v.Kids[j] = v.Kids[j], v.Kids[i] })
	}
	return v
}

// P9.2, P9.3: values of all kinds, as they are and with something wrong in them.
func TestWriteWrong(t *testing.T) {
	r := rand.New(rand.NewSource(11))
	hits := map[api.Errno]int{}
	for range 20000 {
		v := drawn(r, 1+r.Intn(5))
		if e := checkWrite(t, v); e != api.OK {
			t.Fatalf("%+v: %d", v, e)
		}
		v = wrong(r, v)
		if r.Intn(2) == 0 {
			v = wrong(r, v)
		}
		hits[checkWrite(t, v)]++
	}
	for _, e := range []api.Errno{api.OK, api.ErrTag, api.ErrValue, api.ErrOrder} {
		if hits[e] < 20 {
			t.Errorf("%d came %d times alone", e, hits[e])
		}
	}
}
