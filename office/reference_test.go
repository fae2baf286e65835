package office

import (
	"bytes"
	"crypto/sha256"
	"encoding/binary"
	"fmt"
	"math/rand"
	"slices"
	"strconv"
	"sync"
	"testing"

	"chancery/api"
	"chancery/cert"
	"chancery/name"
	"chancery/plate"
	"chancery/scheme"
	"chancery/store"
)

var counts = map[int]int{8: 16, 9: 8}

// drawn is so many bytes of a number.
func drawn(n int64, length int) []byte {
	b := make([]byte, length)
	rand.New(rand.NewSource(n)).Read(b)
	return b
}

func seedOf(n int) []byte { return drawn(int64(1000+n), 32) }

func drawOf(n int) []byte { return drawn(int64(2000+n), 32) }

func expect(t *testing.T, what string, got, want api.Errno) {
	t.Helper()
	if got != want {
		t.Fatalf("%s: %d, want %d", what, got, want)
	}
}

func common(text string) name.DN { return name.DN{{Type: "2.5.4.3", Text: text}} }

func machine(text string) name.General { return name.General{Kind: 2, Text: text} }

func mail(text string) name.General { return name.General{Kind: 1, Text: text} }

func dir(d name.DN) name.General { return name.General{Kind: 4, Dir: d} }

// signerOf is layer 8's; the tests ask for the same ones often.
func signerOf(t *testing.T, kind int, seed []byte) *scheme.Signer {
	t.Helper()
	at := strconv.Itoa(kind) + string(seed)
	signersLock.Lock()
	defer signersLock.Unlock()
	if signersMade[at] == nil {
		s, e := scheme.Make(kind, seed)
		expect(t, "Make", e, api.OK)
		signersMade[at] = s
	}
	return signersMade[at]
}

var (
	signersLock sync.Mutex
	signersMade = map[string]*scheme.Signer{}
)

// ask is a request by a key of a scheme, which its own key signed.
func ask(t *testing.T, kind int, subject name.DN, alt ...name.General) []byte {
	t.Helper()
	at := fmt.Sprint(kind, subject, alt)
	requestsLock.Lock()
	b := requestsMade[at]
	requestsLock.Unlock()
	if b == nil {
		r := cert.Request{Subject: subject, KeyScheme: kind, Key: signerOf(t, kind, seedOf(kind)).Public(), Alt: alt, Scheme: kind}
		b = encoded(t, signRequest(t, r, kind, seedOf(kind)))
		requestsLock.Lock()
		requestsMade[at] = b
		requestsLock.Unlock()
	}
	return slices.Clone(b)
}

var (
	requestsLock sync.Mutex
	requestsMade = map[string][]byte{}
)

// signRequest signs with a key, be it the request's or not.
func signRequest(t *testing.T, r cert.Request, kind int, seed []byte) cert.Request {
	t.Helper()
	tbs, e := r.Tbs()
	expect(t, "the request's Tbs", e, api.OK)
	r.Sig, e = signerOf(t, kind, seed).Sign(0, tbs, drawOf(0))
	expect(t, "the request's signature", e, api.OK)
	return r
}

func encoded(t *testing.T, x interface{ Encode() ([]byte, api.Errno) }) []byte {
	t.Helper()
	b, e := x.Encode()
	expect(t, "Encode", e, api.OK)
	return b
}

// ledger is what an office has, by the chapter's words.
type ledger struct {
	c       Config
	ca, log []byte
	caNext  int
	logNext int
	certs   [][]byte
	others  map[string]string // what else is in the store
}

// root is the root's certificate.
func (l *ledger) root(t *testing.T) cert.Cert {
	t.Helper()
	c, e := cert.ParseCert(l.certs[0])
	expect(t, "the root", e, api.OK)
	return c
}

// found is what founding leaves.
func (l *ledger) found(t *testing.T, now int, draw []byte) {
	t.Helper()
	s := signerOf(t, l.c.Scheme, l.ca)
	to := now + 10*l.c.Life
	if to > 253402300799 {
		to = 253402300799
	}
	root := cert.Cert{
		Serial: 1, Scheme: l.c.Scheme, Issuer: l.c.Name, Subject: l.c.Name, From: now, To: to,
		KeyScheme: l.c.Scheme, Key: s.Public(), CA: true, Path: 0, Usage: 96, Permit: l.c.Permit, Exclude: l.c.Exclude,
	}
	tbs, e := root.Tbs()
	expect(t, "the root's Tbs", e, api.OK)
	root.Sig, e = s.Sign(0, tbs, draw)
	expect(t, "the root's signature", e, api.OK)
	l.certs = [][]byte{encoded(t, root)}
	if l.c.Scheme == 8 || l.c.Scheme == 9 {
		l.caNext = 1
	}
}

// keeps tells whether a name keeps to the root's limits.
func (l *ledger) keeps(n name.General) bool {
	for _, x := range l.c.Exclude {
		if name.Within(n, x) {
			return false
		}
	}
	asked, within := false, false
	for _, x := range l.c.Permit {
		asked = asked || x.Kind == n.Kind
		within = within || name.Within(n, x)
	}
	return !asked || within
}

// next is the certificate that a request is issued, or why it is issued none, were there no store's errors.
func (l *ledger) next(t *testing.T, request []byte, now int, draw []byte) ([]byte, api.Errno) {
	t.Helper()
	root := l.root(t)
	if len(draw) != 32 {
		return nil, api.ErrKey
	}
	if now < root.From || now > root.To {
		return nil, api.ErrTime
	}
	r, e := cert.ParseRequest(request)
	if e != api.OK {
		return nil, e
	}
	signed, _ := r.Tbs()
	if r.Scheme != r.KeyScheme || !scheme.Verify(r.Scheme, r.Key, signed, r.Sig) {
		return nil, api.ErrProof
	}
	if len(r.Subject) == 0 && len(r.Alt) == 0 {
		return nil, api.ErrProfile
	}
	for _, n := range r.Alt {
		if !l.keeps(n) {
			return nil, api.ErrNames
		}
	}
	if len(r.Subject) > 0 && !l.keeps(dir(r.Subject)) {
		return nil, api.ErrNames
	}
	if len(l.certs) >= 4096 {
		return nil, api.ErrSerial
	}
	c := cert.Cert{
		Serial: len(l.certs) + 1, Scheme: l.c.Scheme, Issuer: l.c.Name, Subject: r.Subject, From: now, To: now + l.c.Life,
		KeyScheme: r.KeyScheme, Key: r.Key, Path: -1, Usage: 1, Alt: r.Alt,
	}
	if c.To > root.To {
		c.To = root.To
	}
	c.Sig = make([]byte, scheme.Size(l.c.Scheme))
	if b, e := c.Encode(); e != api.OK || len(b) > 8192 {
		return nil, api.ErrBig
	}
	if n := counts[l.c.Scheme]; n > 0 && l.caNext >= n {
		return nil, api.ErrUsed
	}
	tbs, _ := c.Tbs()
	c.Sig, e = signerOf(t, l.c.Scheme, l.ca).Sign(l.caNext, tbs, draw)
	expect(t, "layer 8", e, api.OK)
	return encoded(t, c), api.OK
}

// useCa and useLog count a signature.
func (l *ledger) useCa() {
	if l.c.Scheme >= 8 {
		l.caNext++
	}
}

func (l *ledger) useLog() {
	if l.c.LogScheme >= 8 {
		l.logNext++
	}
}

// head is the next head.
func (l *ledger) head(t *testing.T, now int, draw []byte) []byte {
	t.Helper()
	h := cert.Head{Size: len(l.certs), Time: now, Root: slowRoot(l.certs), Scheme: l.c.LogScheme}
	tbs, e := h.Tbs()
	expect(t, "the head's Tbs", e, api.OK)
	h.Sig, e = signerOf(t, l.c.LogScheme, l.log).Sign(l.logNext, tbs, draw)
	expect(t, "layer 8", e, api.OK)
	return encoded(t, h)
}

// pairs are all that the store has.
func (l *ledger) pairs() map[string]string {
	all := map[string]string{}
	for k, v := range l.others {
		all[k] = v
	}
	if len(l.certs) == 0 {
		return all
	}
	key := func(kind int, seed []byte, next int) string {
		return string(binary.BigEndian.AppendUint32(append([]byte{byte(kind)}, seed...), uint32(next)))
	}
	all["key/ca"] = key(l.c.Scheme, l.ca, l.caNext)
	all["key/log"] = key(l.c.LogScheme, l.log, l.logNext)
	all["ca/life"] = string(binary.BigEndian.AppendUint64(nil, uint64(l.c.Life)))
	for i, b := range l.certs {
		all[fmt.Sprintf("cert/%016x", i+1)] = string(b)
	}
	return all
}

func (l *ledger) clone() *ledger {
	m := *l
	m.certs = slices.Clone(l.certs)
	m.others = map[string]string{}
	for k, v := range l.others {
		m.others[k] = v
	}
	return &m
}

// The tree by layer 16's words.

func half(n int) int {
	k := 1
	for 2*k < n {
		k *= 2
	}
	return k
}

func slowRoot(list [][]byte) []byte {
	if len(list) == 0 {
		h := sha256.Sum256(nil)
		return h[:]
	}
	if len(list) == 1 {
		h := sha256.Sum256(append([]byte{0}, list[0]...))
		return h[:]
	}
	k := half(len(list))
	h := sha256.Sum256(slices.Concat([]byte{1}, slowRoot(list[:k]), slowRoot(list[k:])))
	return h[:]
}

func slowPath(list [][]byte, m int) [][]byte {
	if len(list) == 1 {
		return nil
	}
	k := half(len(list))
	if m < k {
		return append(slowPath(list[:k], m), slowRoot(list[k:]))
	}
	return append(slowPath(list[k:], m-k), slowRoot(list[:k]))
}

func slowBridge(list [][]byte, m int, same bool) [][]byte {
	if m == 0 || m == len(list) && same {
		return nil
	}
	if m == len(list) {
		return [][]byte{slowRoot(list)}
	}
	k := half(len(list))
	if m <= k {
		return append(slowBridge(list[:k], m, same), slowRoot(list[k:]))
	}
	return append(slowBridge(list[k:], m-k, false), slowRoot(list[:k]))
}

// house is a plate, a store and an office on it, and what it must have.
type house struct {
	p *plate.Plate
	s *store.Store
	o *Office
	*ledger
}

// bare is a plate with a store on which nothing is founded.
func bare(t *testing.T, sectors int) *house {
	t.Helper()
	h := &house{p: plate.New(sectors), ledger: &ledger{others: map[string]string{}}}
	var e api.Errno
	h.s, e = store.Open(h.p)
	expect(t, "opening the store", e, api.OK)
	return h
}

func someConfig(kind, logKind int) Config {
	return Config{
		Name: name.DN{{Type: "2.5.4.6", Text: "XX"}, {Type: "2.5.4.3", Text: "the root"}}, Scheme: kind, LogScheme: logKind, Life: 1000,
		Permit: []name.General{machine("b.example"), machine("c.example"), mail("b.example")}, Exclude: []name.General{machine("evil.b.example"), dir(common("evil"))},
	}
}

// found founds what there must be then.
func (h *house) found(t *testing.T, c Config, now int) {
	t.Helper()
	h.c, h.ca, h.log = c, seedOf(100), seedOf(200)
	h.ledger.found(t, now, drawOf(0))
	var e api.Errno
	h.o, e = Found(h.s, c, h.ca, h.log, now, drawOf(0))
	expect(t, "Found", e, api.OK)
	h.holds(t)
}

// newHouse is an office of a root from 1000 to 11000.
func newHouse(t *testing.T, kind, logKind int) *house {
	t.Helper()
	h := bare(t, 6000)
	h.found(t, someConfig(kind, logKind), 1000)
	return h
}

// reopen opens the store and the office anew.
func (h *house) reopen(t *testing.T) {
	t.Helper()
	var e api.Errno
	h.s, e = store.Open(h.p)
	expect(t, "opening the store", e, api.OK)
	h.o, e = Open(h.s)
	expect(t, "Open", e, api.OK)
}

// pairsOf is all that is in a store.
func pairsOf(s *store.Store) map[string]string {
	all := map[string]string{}
	for _, k := range s.Keys(nil) {
		v, _ := s.Get(k)
		all[string(k)] = string(v)
	}
	return all
}

// holds asks for all that an office tells.
func (h *house) holds(t *testing.T) {
	t.Helper()
	if got, want := pairsOf(h.s), h.pairs(); !samePairs(got, want) {
		t.Fatalf("the store has %d pairs %q, want %d", len(got), keysOf(got), len(want))
	}
	n := len(h.certs)
	if got := h.o.Count(); got != n {
		t.Fatalf("Count is %d, want %d", got, n)
	}
	for serial := -1; serial <= n+2; serial++ {
		b, ok := h.o.Cert(serial)
		if there := serial >= 1 && serial <= n; ok != there || there && !bytes.Equal(b, h.certs[serial-1]) || !there && len(b) != 0 {
			t.Fatalf("Cert(%d) is %d bytes, %v", serial, len(b), ok)
		}
	}
	if got := encoded(t, h.o.Root()); !bytes.Equal(got, h.certs[0]) {
		t.Fatalf("Root is %+v", h.o.Root())
	}
	h.holdsTree(t)
	h.holdsVault(t)
}

// holdsTree asks for the paths and bridges to all the leaves, and to two of fewer.
func (h *house) holdsTree(t *testing.T) {
	t.Helper()
	size := len(h.certs)
	for _, n := range []int{size, size - 1, size / 2} {
		for m := range n + 1 {
			if got, ok := h.o.Path(m, n); ok != (m < n) || ok && !sameHashes(got, slowPath(h.certs[:n], m)) || !ok && len(got) != 0 {
				t.Fatalf("of %d leaves Path(%d, %d) is %x, %v", size, m, n, got, ok)
			}
			if got, ok := h.o.Bridge(m, n); !ok || !sameHashes(got, slowBridge(h.certs[:n], m, true)) {
				t.Fatalf("of %d leaves Bridge(%d, %d) is %x, %v", size, m, n, got, ok)
			}
		}
	}
	for _, x := range [][2]int{{-1, size}, {0, size + 1}, {size, size + 1}, {size + 1, size}, {size + 1, size + 1}, {0, -1}, {-1, -1}, {-1 << 63, 1}, {0, 1<<63 - 1}} {
		got, ok := h.o.Path(x[0], x[1])
		bridge, is := h.o.Bridge(x[0], x[1])
		if ok || is || len(got) != 0 || len(bridge) != 0 {
			t.Fatalf("of %d leaves Path%v is %x, %v, Bridge %x, %v", size, x, got, ok, bridge, is)
		}
	}
}

func (h *house) holdsVault(t *testing.T) {
	t.Helper()
	if h.o.Store() != h.s {
		t.Fatal("Store is another one")
	}
	if got := h.o.Vault().Names(); !slices.Equal(got, []string{"ca", "log"}) {
		t.Fatalf("the keys are %q", got)
	}
	for _, k := range []struct {
		name       string
		kind, next int
		seed       []byte
	}{{"ca", h.c.Scheme, h.caNext, h.ca}, {"log", h.c.LogScheme, h.logNext, h.log}} {
		want := -1
		if k.kind >= 8 {
			want = counts[k.kind] - k.next
		}
		if n, e := h.o.Vault().Left(k.name); e != api.OK || n != want {
			t.Fatalf("Left(%s) is %d, %d, want %d", k.name, n, e, want)
		}
		kind, pk, e := h.o.Vault().Public(k.name)
		if e != api.OK || kind != k.kind || !bytes.Equal(pk, signerOf(t, k.kind, k.seed).Public()) {
			t.Fatalf("Public(%s) is %d, %x, %d", k.name, kind, pk, e)
		}
	}
}

func samePairs(a, b map[string]string) bool {
	for k, v := range a {
		if w, ok := b[k]; !ok || v != w {
			return false
		}
	}
	return len(a) == len(b)
}

func keysOf(all map[string]string) []string {
	var keys []string
	for k := range all {
		keys = append(keys, k)
	}
	slices.Sort(keys)
	return keys
}

func sameHashes(a, b [][]byte) bool {
	return slices.EqualFunc(a, b, func(x, y []byte) bool { return bytes.Equal(x, y) })
}

// content is all that is on a plate.
func content(p *plate.Plate) string {
	var all []byte
	for at := range p.Sectors() {
		b, _ := p.Read(at)
		all = append(all, b...)
	}
	return string(all)
}

// still makes a call that must write nothing, and change nothing.
func (h *house) still(t *testing.T, what string, call func()) {
	t.Helper()
	before, pairs := content(h.p), pairsOf(h.s)
	h.p.Arm(0)
	call()
	if h.p.Down() {
		t.Fatalf("%s: something was to be written", what)
	}
	h.p.Arm(-1)
	if content(h.p) != before || !samePairs(pairsOf(h.s), pairs) {
		t.Fatalf("%s: something changed", what)
	}
}

// issue asks for a certificate that must be issued.
func (h *house) issue(t *testing.T, request []byte, now int, draw []byte, also ...store.Change) []byte {
	t.Helper()
	want, e := h.next(t, request, now, draw)
	expect(t, "the ledger", e, api.OK)
	b, e := h.o.Issue(request, now, draw, also...)
	expect(t, "Issue", e, api.OK)
	if !bytes.Equal(b, want) {
		got, _ := cert.ParseCert(b)
		t.Fatalf("issued is %+v", got)
	}
	h.useCa()
	h.certs = append(h.certs, want)
	for _, c := range also {
		if c.Gone {
			delete(h.others, string(c.Key))
		} else {
			h.others[string(c.Key)] = string(c.Value)
		}
	}
	h.holds(t)
	return b
}

// refuse asks for a certificate that must be refused so, with nothing written.
func (h *house) refuse(t *testing.T, what string, request []byte, now int, draw []byte, want api.Errno) {
	t.Helper()
	if _, e := h.next(t, request, now, draw); e != want {
		t.Fatalf("%s: the ledger says %d, want %d", what, e, want)
	}
	also := store.Change{Key: []byte("also"), Value: []byte("x")}
	h.still(t, what, func() {
		h.fails(t, what, request, now, draw, want)
		h.fails(t, what, request, now, draw, want, also)
	})
	h.holds(t)
}

// fails asks for a certificate, and nothing is told.
func (h *house) fails(t *testing.T, what string, request []byte, now int, draw []byte, want api.Errno, also ...store.Change) {
	t.Helper()
	b, e := h.o.Issue(request, now, draw, also...)
	expect(t, what, e, want)
	if len(b) != 0 {
		t.Fatalf("%s: beside an error %d bytes are told", what, len(b))
	}
}

// tell asks for a head that must be told.
func (h *house) tell(t *testing.T, now int, draw []byte) cert.Head {
	t.Helper()
	want := h.ledger.head(t, now, draw)
	b, e := h.o.Head(now, draw)
	expect(t, "Head", e, api.OK)
	if !bytes.Equal(b, want) {
		got, _ := cert.ParseHead(b)
		t.Fatalf("the head is %+v", got)
	}
	h.useLog()
	h.holds(t)
	head, _ := cert.ParseHead(b)
	return head
}
