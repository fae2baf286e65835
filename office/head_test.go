package office

import (
	"math"
	"strconv"
	"testing"

	"chancery/api"
	"chancery/cert"
	"chancery/merkle"
	"chancery/scheme"
)

// P19.4: heads of each scheme, of trees that grow.
func TestHead(t *testing.T) {
	for kind := 1; kind < 10; kind++ {
		h := newHouse(t, 1, kind)
		_, pk, _ := h.o.Vault().Public("log")
		for i := range 4 {
			head := h.tell(t, 50*i, drawOf(i))
			tbs, _ := head.Tbs()
			if head.Size != 1+i || head.Time != 50*i || head.Scheme != kind || !scheme.Verify(kind, pk, tbs, head.Sig) {
				t.Errorf("the head is %+v", head)
			}
			h.issue(t, ask(t, 1, common("x")), 1000, drawOf(i))
			if i == 1 {
				h.reopen(t)
			}
		}
	}
}

// P19.4: draws, and times at their edges and past them.
func TestHeadRefused(t *testing.T) {
	for _, kind := range []int{1, 4, 9} {
		h := newHouse(t, 1, kind)
		refuse := func(what string, now int, draw []byte, want api.Errno) {
			t.Helper()
			h.still(t, what, func() {
				b, e := h.o.Head(now, draw)
				expect(t, what, e, want)
				if len(b) != 0 {
					t.Fatalf("%s: beside an error %d bytes are told", what, len(b))
				}
			})
		}
		for _, now := range []int{-1, math.MinInt, math.MaxInt, api.MaxTime + 1} {
			refuse(strconv.Itoa(now), now, drawOf(0), api.ErrTime)
			refuse(strconv.Itoa(now)+", no draw", now, nil, api.ErrKey)
		}
		for _, n := range []int{0, 1, 31, 33, 64, 256 + 32} {
			refuse("draw of "+strconv.Itoa(n), 0, drawn(1, n), api.ErrKey)
		}
		h.tell(t, 0, drawOf(0))
		h.tell(t, api.MaxTime, drawOf(0))
		for h.logNext < 8 && kind == 9 {
			h.tell(t, 7, drawOf(0))
		}
		if kind == 9 {
			refuse("no number left", 7, drawOf(0), api.ErrUsed)
			refuse("no number left, no time", -1, drawOf(0), api.ErrTime)
			refuse("no number left, no draw", 7, nil, api.ErrKey)
			h.reopen(t)
			refuse("no number left", 7, drawOf(0), api.ErrUsed)
		}
		h.issue(t, ask(t, 1, common("x")), 1000, drawOf(0))
	}
}

// P19.4: a crash while a head is told.
func TestHeadCrash(t *testing.T) {
	h := newHouse(t, 1, 9)
	h.issue(t, ask(t, 1, common("x")), 1000, drawOf(0))
	h.p.Arm(0)
	for _, want := range []api.Errno{api.ErrCrash, api.ErrClosed} {
		if b, e := h.o.Head(7, drawOf(0)); e != want || len(b) != 0 {
			t.Error(len(b), e)
		}
		h.holds(t)
	}
	h.p.Revive(nil)
	h.reopen(t)
	h.holds(t)
	h.tell(t, 7, drawOf(0))
}

// P19.5: heads are of beginnings of one tree, in which all certificates are leaves.
func TestHeadsGrow(t *testing.T) {
	h := newHouse(t, 1, 1)
	var heads []cert.Head
	for i := range 12 {
		heads = append(heads, h.tell(t, i, drawOf(i)))
		b := h.issue(t, ask(t, 1, common("x")), 1000+i, drawOf(i))
		if i%4 == 3 {
			h.reopen(t)
		}
		last := h.tell(t, i, drawOf(0))
		p, _ := h.o.Path(i+1, last.Size)
		if !merkle.Included(merkle.Leaf(b), i+1, i+2, p, last.Root) {
			t.Error("the certificate", i+2, "is no leaf")
		}
		for _, x := range heads {
			bridge, _ := h.o.Bridge(x.Size, last.Size)
			if !merkle.Grown(x.Size, last.Size, x.Root, last.Root, bridge) {
				t.Error("the head of", x.Size, "is no beginning of that of", last.Size)
			}
		}
	}
}

// P19.2, P19.4: each call by itself tells of all certificates, be it the first one that is made.
func TestFirstCalls(t *testing.T) {
	h := newHouse(t, 1, 4)
	for i := range 4 {
		h.issue(t, ask(t, 1, common("x")), 1000, drawOf(i))
	}
	for what, is := range map[string]func() bool{
		"Count":  func() bool { return h.o.Count() == 5 },
		"Cert":   func() bool { b, ok := h.o.Cert(5); return ok && string(b) == string(h.certs[4]) },
		"Path":   func() bool { p, ok := h.o.Path(3, 5); return ok && sameHashes(p, slowPath(h.certs, 3)) },
		"Bridge": func() bool { p, ok := h.o.Bridge(3, 5); return ok && sameHashes(p, slowBridge(h.certs, 3, true)) },
		"Head": func() bool {
			b, e := h.o.Head(7, drawOf(0))
			return e == api.OK && string(b) == string(h.ledger.head(t, 7, drawOf(0)))
		},
	} {
		h.reopen(t)
		if !is() {
			t.Error(what, "is wrong when it is the first call")
		}
	}
}
