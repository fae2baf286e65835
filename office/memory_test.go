package office

import (
	"bytes"
	"slices"
	"strings"
	"testing"

	"chancery/api"
	"chancery/cert"
	"chancery/name"
	"chancery/store"
)

// roomy is b with spare room behind it, in which something stands.
func roomy(b []byte) []byte {
	all := append(slices.Clone(b), bytes.Repeat([]byte{0xa5}, 100)...)
	return all[:len(b)]
}

// untouched tells whether a roomy b is as it was made of b.
func untouched(got, b []byte) bool {
	room := got[:len(b)+100]
	return bytes.Equal(room[:len(b)], b) && bytes.Equal(room[len(b):], bytes.Repeat([]byte{0xa5}, 100))
}

// spoil writes over a list and its spare room.
func spoil(b []byte) {
	for i := range b[:cap(b)] {
		b[:cap(b)][i] ^= 0xa5
	}
}

func roomyNames(list []name.General) []name.General {
	all := append(slices.Clone(list), machine("spare"))
	return all[:len(list)]
}

func spoilNames(list []name.General) {
	for i := range list[:cap(list)] {
		list[:cap(list)][i] = machine("spoilt")
	}
}

// The rules: what is handed to Found isn't changed, nor kept.
func TestFoundArguments(t *testing.T) {
	for _, kind := range []int{1, 9} {
		h := bare(t, 3000)
		c := someConfig(kind, 4)
		h.c, h.ca, h.log = someConfig(kind, 4), seedOf(100), seedOf(200)
		h.ledger.found(t, 1000, drawOf(0))
		c.Name = append(slices.Clone(c.Name), name.Attr{Type: "x"})[:len(c.Name)]
		c.Permit, c.Exclude = roomyNames(c.Permit), roomyNames(c.Exclude)
		inner := c.Exclude[1].Dir
		ca, log, draw := roomy(h.ca), roomy(h.log), roomy(drawOf(0))
		var e api.Errno
		h.o, e = Found(h.s, c, ca, log, 1000, draw)
		expect(t, "Found", e, api.OK)
		if !untouched(ca, h.ca) || !untouched(log, h.log) || !untouched(draw, drawOf(0)) || c.Name[:3][2].Type != "x" || c.Permit[:4][3].Text != "spare" || c.Exclude[:3][2].Text != "spare" {
			t.Error("an argument was changed")
		}
		for _, b := range [][]byte{ca, log, draw} {
			spoil(b)
		}
		spoilNames(c.Permit)
		spoilNames(c.Exclude)
		inner[0].Text, c.Name[0].Text = "spoilt", "spoilt"
		h.holds(t)
		h.issue(t, ask(t, 1, common("x")), 1000, drawOf(1))
	}
}

// The rules: what is handed to Issue and Head isn't changed, nor kept; also when they refuse it.
func TestIssueArguments(t *testing.T) {
	for _, kind := range []int{1, 4, 9} {
		h := newHouse(t, kind, 1)
		plain := ask(t, 1, common("x"), machine("b.example"))
		request, draw := roomy(plain), roomy(drawOf(0))
		key, value := roomy([]byte("also")), roomy([]byte("value"))
		also := []store.Change{{Key: key, Value: value}, {Key: key, Value: value}, {Key: []byte("spare")}}[:2]
		b := h.issue(t, request, 1000, draw, also...)
		h.refuse(t, "late", request, 99999, draw, api.ErrTime)
		h.refuse(t, "no draw", request, 1000, request, api.ErrKey)
		h.tell(t, 7, draw)
		if !untouched(request, plain) || !untouched(draw, drawOf(0)) || !untouched(key, []byte("also")) || !untouched(value, []byte("value")) || string(also[:3][2].Key) != "spare" || len(also[0].Key) != 4 {
			t.Fatal("an argument was changed")
		}
		was := slices.Clone(b)
		for _, x := range [][]byte{request, draw, key, value} {
			spoil(x)
		}
		clear(also[:3])
		if !bytes.Equal(b, was) {
			t.Fatal("a certificate shares memory with an argument")
		}
		h.holds(t)
		h.reopen(t)
		h.holds(t)
	}
}

// The rules: what is told is new memory, its spare room too.
func TestAnswersAreNew(t *testing.T) {
	h := newHouse(t, 9, 4)
	for i := range 3 {
		b := h.issue(t, ask(t, 1, common("x")), 1000, drawOf(i))
		h.certs[len(h.certs)-1] = slices.Clone(b)
		spoil(b)
		h.holds(t)
	}
	one, _ := h.o.Cert(2)
	two, _ := h.o.Cert(2)
	spoil(one)
	if !bytes.Equal(two, h.certs[1]) {
		t.Error("two certificates share memory")
	}
	first, _ := h.o.Head(7, drawOf(0))
	second, _ := h.o.Head(7, drawOf(0))
	was := slices.Clone(second)
	spoil(first)
	if !bytes.Equal(second, was) {
		t.Error("two heads share memory")
	}
	h.holds(t)
	for _, tell := range []func(m, n int) ([][]byte, bool){h.o.Path, h.o.Bridge} {
		list, _ := tell(2, 4)
		again, _ := tell(2, 4)
		for i, x := range list {
			was := slices.Clone(again[i])
			spoil(x)
			if !bytes.Equal(again[i], was) || i > 0 && len(list[0]) != 32 {
				t.Error("two answers share memory")
			}
		}
		clear(list[:cap(list)])
		h.holds(t)
	}
}

// The rules: so are the root's lists.
func TestRootIsNew(t *testing.T) {
	h := newHouse(t, 1, 4)
	spoilCert := func(c cert.Cert) {
		for _, d := range []name.DN{c.Issuer, c.Subject, c.Exclude[1].Dir} {
			for i := range d[:cap(d)] {
				d[:cap(d)][i] = name.Attr{Type: "2.5.4.3", Text: strings.Repeat("y", 5)}
			}
		}
		spoilNames(c.Permit)
		spoilNames(c.Exclude)
		spoil(c.Key)
		spoil(c.Sig)
	}
	one, two := h.o.Root(), h.o.Root()
	spoilCert(one)
	if !bytes.Equal(encoded(t, two), h.certs[0]) {
		t.Error("two roots share memory")
	}
	h.holds(t)
	spoilCert(h.o.Root())
	h.issue(t, ask(t, 1, common("x")), 1000, drawOf(1))
	h.refuse(t, "outside", ask(t, 1, common("evil")), 1000, drawOf(0), api.ErrNames)
}
