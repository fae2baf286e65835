package vault

import (
	"bytes"
	"encoding/binary"
	"maps"
	"math/rand"
	"slices"
	"strconv"
	"sync"
	"testing"

	"chancery/api"
	"chancery/lms"
	"chancery/plate"
	"chancery/scheme"
	"chancery/store"
)

var (
	counts     = map[int]int{8: 16, 9: 8}
	goodNames  = []string{"a", "z", "m", "ca", "log", "az", "za", "abcdefgh", "zzzzzzzz"}
	wrongNames = []string{"", "A", "Z", "Ca", "cA", "a1", "0", "a b", " a", "a ", "a-b", "a/b", "key/a", "`", "{", "a`", "a{", "é", "aé", "ß", "\x00", "a\x00", "a\xff", "\xe1", "abcdefghi", "zzzzzzzzz", "abcdefghabcdefgh"}
	noSchemes  = []int{0, 10, -1, -8, -9, 11, 44, 255, 256, 256 + 4, 256 + 9, 1<<32 + 9, -1 << 63, -1<<63 + 9, 1<<63 - 1}
)

// drawn is so many bytes of a number.
func drawn(n int64, length int) []byte {
	b := make([]byte, length)
	rand.New(rand.NewSource(n)).Read(b)
	return b
}

func seedOf(n int) []byte { return drawn(int64(1000+n), 32) }

func drawOf(n int) []byte { return drawn(int64(2000+n), 32) }

func expect(t *testing.T, what string, got, want api.Errno) {
	t.Helper()
	if got != want {
		t.Fatalf("%s: %d, want %d", what, got, want)
	}
}

// slowKey is what a vault keeps under a name.
type slowKey struct {
	scheme int
	seed   []byte
	next   int
}

// bytes are the chapter's.
func (k slowKey) bytes() []byte {
	b := append([]byte{byte(k.scheme)}, k.seed...)
	return binary.BigEndian.AppendUint32(b, uint32(k.next))
}

func (k slowKey) left() int {
	if k.scheme < 8 {
		return -1
	}
	return counts[k.scheme] - k.next
}

// signer is layer 8's; the tests ask for the same ones often.
func (k slowKey) signer(t *testing.T) *scheme.Signer {
	t.Helper()
	at := strconv.Itoa(k.scheme) + string(k.seed)
	signersLock.Lock()
	defer signersLock.Unlock()
	if signersMade[at] == nil {
		s, e := scheme.Make(k.scheme, k.seed)
		expect(t, "Make", e, api.OK)
		signersMade[at] = s
	}
	return signersMade[at]
}

var (
	signersLock sync.Mutex
	signersMade = map[string]*scheme.Signer{}
)

// house is a plate, a store and a vault on it, and the keys that must be there.
type house struct {
	p    *plate.Plate
	s    *store.Store
	v    *Vault
	keys map[string]slowKey
}

func newHouse(t *testing.T, sectors int) *house {
	t.Helper()
	h := &house{p: plate.New(sectors), keys: map[string]slowKey{}}
	h.reopen(t)
	return h
}

// reopen opens the store and the vault anew.
func (h *house) reopen(t *testing.T) {
	t.Helper()
	s, e := store.Open(h.p)
	expect(t, "opening the store", e, api.OK)
	h.s, h.v = s, Open(s)
}

// holds asks for all keys.
func (h *house) holds(t *testing.T) {
	t.Helper()
	if got, want := h.v.Names(), slices.Sorted(maps.Keys(h.keys)); !slices.Equal(got, want) {
		t.Fatalf("the names are %q, want %q", got, want)
	}
	for name, k := range h.keys {
		kind, pk, e := h.v.Public(name)
		if e != api.OK || kind != k.scheme || !bytes.Equal(pk, k.signer(t).Public()) {
			t.Fatalf("Public(%q) is %d, %x, %d", name, kind, pk, e)
		}
		if n, e := h.v.Left(name); e != api.OK || n != k.left() {
			t.Fatalf("Left(%q) is %d, %d, want %d", name, n, e, k.left())
		}
		if b, ok := h.s.Get([]byte("key/" + name)); !ok || !bytes.Equal(b, k.bytes()) {
			t.Fatalf("under %q stands %x, want %x", name, b, k.bytes())
		}
	}
}

// content is all that is on the plate and in the store.
func (h *house) content(t *testing.T) string {
	t.Helper()
	all := sectorsOf(h.p)
	for _, k := range h.s.Keys(nil) {
		value, _ := h.s.Get(k)
		all += strconv.Quote(string(k)) + strconv.Quote(string(value))
	}
	return all
}

func sectorsOf(p *plate.Plate) string {
	var all []byte
	for at := range p.Sectors() {
		b, _ := p.Read(at)
		all = append(all, b...)
	}
	return string(all)
}

// still makes a call that must write nothing, and change nothing.
func (h *house) still(t *testing.T, what string, call func()) {
	t.Helper()
	before := h.content(t)
	h.p.Arm(0)
	call()
	if h.p.Down() {
		t.Fatalf("%s: something was to be written", what)
	}
	h.p.Arm(-1)
	if h.content(t) != before {
		t.Fatalf("%s: something changed", what)
	}
	h.holds(t)
}

// create makes a key that there must be then.
func (h *house) create(t *testing.T, name string, kind int, seed []byte) {
	t.Helper()
	expect(t, "Create of "+name, h.v.Create(name, kind, seed), api.OK)
	h.keys[name] = slowKey{scheme: kind, seed: slices.Clone(seed)}
	h.holds(t)
}

// refuseCreate asks for a key that must be refused so by Create and by Change.
func (h *house) refuseCreate(t *testing.T, name string, kind int, seed []byte, want api.Errno) {
	t.Helper()
	what := "a key " + strconv.Quote(name) + " of the scheme " + strconv.Itoa(kind)
	h.still(t, what, func() { expect(t, what, h.v.Create(name, kind, seed), want) })
	for _, used := range []int{0, 1, -1, 99} {
		h.refuseChange(t, name, kind, seed, used, want)
	}
}

func (h *house) refuseChange(t *testing.T, name string, kind int, seed []byte, used int, want api.Errno) {
	t.Helper()
	what := "a change for " + strconv.Quote(name) + " of the scheme " + strconv.Itoa(kind) + ", used " + strconv.Itoa(used)
	h.still(t, what, func() {
		c, e := h.v.Change(name, kind, seed, used)
		expect(t, what, e, want)
		if len(c.Key) != 0 || len(c.Value) != 0 || c.Gone {
			t.Fatalf("%s: %v", what, c)
		}
	})
}

// sign signs with a key that has a signature left, which must be layer 8's with the next number.
func (h *house) sign(t *testing.T, name string, msg, draw []byte) []byte {
	t.Helper()
	k := h.keys[name]
	sig, e := h.v.Sign(name, msg, draw)
	expect(t, "Sign with "+name, e, api.OK)
	want, e := k.signer(t).Sign(k.next, msg, draw)
	expect(t, "layer 8", e, api.OK)
	if !bytes.Equal(sig, want) {
		t.Fatalf("Sign with %s is another than the signature %d", name, k.next)
	}
	if k.scheme >= 8 {
		k.next++
		h.keys[name] = k
	}
	h.holds(t)
	return sig
}

// refuseSign signs what must be refused so.
func (h *house) refuseSign(t *testing.T, name string, draw []byte, want api.Errno) {
	t.Helper()
	for _, msg := range [][]byte{nil, []byte("message")} {
		what := "Sign with " + strconv.Quote(name)
		h.still(t, what, func() { fails(t, h.v, name, msg, draw, want) })
	}
}

// fails signs, and nothing is told.
func fails(t *testing.T, v *Vault, name string, msg, draw []byte, want api.Errno) {
	t.Helper()
	sig, e := v.Sign(name, msg, draw)
	expect(t, "Sign with "+name, e, want)
	if len(sig) != 0 {
		t.Fatalf("beside an error %d bytes are told", len(sig))
	}
}

// numberOf is the number of a signature of scheme 8 or 9.
func numberOf(t *testing.T, kind int, sig []byte) int {
	t.Helper()
	leaves, ok := lms.Leaves(sig)
	if !ok || len(leaves) != 10-kind {
		t.Fatalf("of a signature the leaves are %v, %v", leaves, ok)
	}
	if kind == 8 {
		return 4*leaves[0] + leaves[1]
	}
	return leaves[0]
}
