package office

import (
	"bytes"
	"math/rand"
	"strconv"
	"testing"

	"chancery/api"
	"chancery/cert"
	"chancery/lms"
	"chancery/merkle"
	"chancery/plate"
	"chancery/scheme"
	"chancery/store"
)

// someKeeps are choices of what is kept of so many loose writes: all of them of a few, else some.
func someKeeps(r *rand.Rand, loose int) [][]bool {
	var all [][]bool
	if loose < 4 {
		for set := range 1 << loose {
			all = append(all, keepOf(loose, func(i int) bool { return set>>i&1 == 1 }))
		}
		return all
	}
	one := r.Intn(loose)
	return [][]bool{
		nil,
		keepOf(loose, func(int) bool { return true }),
		keepOf(loose, func(i int) bool { return i == loose-1 }),
		keepOf(loose, func(i int) bool { return i > 0 }),
		keepOf(loose, func(i int) bool { return i != one }),
		keepOf(loose, func(i int) bool { return i < one }),
		keepOf(loose, func(int) bool { return r.Intn(2) == 0 }),
	}
}

func keepOf(loose int, choose func(i int) bool) []bool {
	keep := make([]bool, loose)
	for i := range keep {
		keep[i] = choose(i)
	}
	return keep
}

// behind is the house that a crash and this choice of what is kept lead to; no office may be there.
func (h *house) behind(t *testing.T, keep []bool) *house {
	t.Helper()
	q := &house{p: h.p.Clone(), ledger: h.ledger.clone()}
	q.p.Revive(keep)
	var e api.Errno
	q.s, e = store.Open(q.p)
	expect(t, "opening the store", e, api.OK)
	q.o, e = Open(q.s)
	if e != api.OK && e != api.ErrNone {
		t.Fatal("Open:", e)
	}
	return q
}

// P19.1: every crash while an office is founded: all of it is there, or nothing, and then it can be founded.
func TestEveryCrashOfFound(t *testing.T) {
	for _, kind := range []int{1, 9} {
		r := rand.New(rand.NewSource(int64(kind)))
		f := goodFounding(kind, 4)
		there, none := 0, 0
		for after := 0; ; after++ {
			h := bare(t, 1000)
			h.p.Arm(after)
			o, e := Found(h.s, f.c, f.ca, f.log, f.now, f.draw)
			if e != api.OK {
				expect(t, "Found", e, api.ErrCrash)
				if o != nil {
					t.Fatal("an office beside an error")
				}
			}
			for _, keep := range someKeeps(r, h.p.Loose()) {
				q := h.behind(t, keep)
				if q.o == nil {
					if e == api.OK {
						t.Fatal("an office that was founded isn't there")
					}
					if none++; none%40 == 1 {
						q.found(t, f.c, f.now)
					}
					continue
				}
				there++
				q.c, q.ca, q.log = f.c, f.ca, f.log
				q.ledger.found(t, f.now, f.draw)
				q.holds(t)
			}
			if e == api.OK {
				break
			}
		}
		if there < 2 || none < 50 {
			t.Error("there:", there, "none:", none)
		}
	}
}

// afterIssue is what a crash in an Issue may have left: the state ahead of it, or that with the number used up, or that behind it, as a whole.
func (q *house) afterIssue(t *testing.T, want []byte, also store.Change) (kind string) {
	t.Helper()
	ahead := pairsOf(q.s)
	if samePairs(ahead, q.pairs()) {
		return "ahead"
	}
	q.useCa()
	if samePairs(ahead, q.pairs()) {
		return "used"
	}
	q.certs = append(q.certs, want)
	q.others[string(also.Key)] = string(also.Value)
	if samePairs(ahead, q.pairs()) {
		return "behind"
	}
	t.Fatalf("behind a crash the store has %q", keysOf(ahead))
	return ""
}

// fillUp writes until issuing begins a generation.
func (h *house) fillUp(t *testing.T, request []byte) {
	t.Helper()
	for {
		q := h.behind(t, nil)
		_, e := q.o.Issue(request, 1000, drawOf(1))
		expect(t, "Issue", e, api.OK)
		if q.s.Generation() > h.s.Generation() {
			return
		}
		h.others["also"] = string(drawn(1, 500))
		expect(t, "Commit", h.s.Commit([]store.Change{{Key: []byte("also"), Value: drawn(1, 500)}}), api.OK)
	}
}

// P19.3, P19.5: every crash while a certificate is issued, where that begins a generation and where it doesn't.
func TestEveryCrashOfIssue(t *testing.T) {
	for _, x := range []struct {
		kind   int
		begins bool
	}{{4, true}, {4, false}, {9, true}, {9, false}} {
		t.Run(strconv.Itoa(x.kind)+"/"+strconv.FormatBool(x.begins), func(t *testing.T) {
			t.Parallel()
			r := rand.New(rand.NewSource(int64(x.kind)))
			h := bare(t, 700)
			h.found(t, someConfig(x.kind, 4), 1000)
			also := store.Change{Key: []byte("also"), Value: []byte("x")}
			request := ask(t, 4, common("x"))
			if x.begins {
				h.fillUp(t, request)
			}
			want, e := h.next(t, request, 1000, drawOf(1))
			expect(t, "the ledger", e, api.OK)
			seen := map[string]int{}
			for after, e := 0, api.ErrCrash; e != api.OK; after++ {
				q := h.behind(t, nil)
				var b []byte
				q.p.Arm(after)
				b, e = q.o.Issue(request, 1000, drawOf(1), also)
				if e != api.OK {
					expect(t, "Issue", e, api.ErrCrash)
				}
				if e == api.OK != bytes.Equal(b, want) || e != api.OK && len(b) != 0 {
					t.Fatalf("armed with %d: %d bytes, %d", after, len(b), e)
				}
				for _, keep := range someKeeps(r, q.p.Loose()) {
					z := q.behind(t, keep)
					left := z.afterIssue(t, want, also)
					if e == api.OK && left != "behind" {
						t.Fatal("a certificate that was told isn't there")
					}
					seen[left]++
				}
			}
			for _, left := range []string{"ahead", "used", "behind"} {
				if seen[left] < 2 && (left != "used" || x.kind == 9) {
					t.Errorf("lives: %v", seen)
				}
			}
		})
	}
}

// drawnLife lives with an office through crashes, and remembers what was told.
type drawnLife struct {
	*house
	r       *rand.Rand
	told    map[int][]byte // certificates by their serials
	heads   []cert.Head
	numbers map[string]bool // of signatures that were told, with the name of their key
	crashes int
}

// signedOnce holds a signature that was told against all others that were.
func (d *drawnLife) signedOnce(t *testing.T, key string, kind int, sig []byte) {
	t.Helper()
	if kind < 8 {
		return
	}
	leaves, ok := lms.Leaves(sig)
	at := key + ":"
	for _, n := range leaves {
		at += strconv.Itoa(n) + "."
	}
	if !ok || d.numbers[at] {
		t.Fatal("told twice with one number:", at)
	}
	d.numbers[at] = true
}

// power goes, and what was being done is as the plate says: want is the certificate that was being issued, or nothing.
func (d *drawnLife) power(t *testing.T, want []byte, head bool) {
	t.Helper()
	d.crashes++
	keeps := someKeeps(d.r, d.p.Loose())
	d.p.Revive(keeps[d.r.Intn(len(keeps))])
	d.reopen(t)
	if head && !samePairs(pairsOf(d.s), d.pairs()) {
		d.useLog()
	}
	if want != nil {
		also := store.Change{Key: []byte("also"), Value: want[len(want)-5:]}
		d.afterIssue(t, want, also)
	}
	d.holds(t)
}

func (d *drawnLife) issueSome(t *testing.T) {
	t.Helper()
	request := ask(t, 1, common("x"+strconv.Itoa(d.r.Intn(3))), machine("b.example"))
	now, draw := 1000+d.r.Intn(5000), drawOf(d.r.Intn(5))
	want, wrong := d.next(t, request, now, draw)
	also := store.Change{Key: []byte("also")}
	if wrong == api.OK {
		also.Value = want[len(want)-5:]
	}
	b, e := d.o.Issue(request, now, draw, also)
	switch e {
	case api.OK:
		if !bytes.Equal(b, want) || d.told[len(d.certs)+1] != nil {
			t.Fatal("another certificate, or one told twice")
		}
		c, _ := cert.ParseCert(b)
		d.signedOnce(t, "ca", d.c.Scheme, c.Sig)
		d.useCa()
		d.certs = append(d.certs, want)
		d.others["also"] = string(also.Value)
		d.told[len(d.certs)] = b
	case api.ErrCrash:
		d.power(t, want, false)
	case api.ErrFull:
		if _, left := d.o.Vault().Left("ca"); left != api.OK {
			t.Fatal("Left:", left)
		}
		if !samePairs(pairsOf(d.s), d.pairs()) {
			d.useCa()
		}
	default:
		expect(t, "Issue", e, wrong)
	}
	if e != api.OK && len(b) != 0 {
		t.Fatal("a certificate beside an error")
	}
}

func (d *drawnLife) headSome(t *testing.T) {
	t.Helper()
	used := d.c.LogScheme >= 8 && d.logNext == counts[d.c.LogScheme]
	now, draw := d.r.Intn(5000), drawOf(d.r.Intn(5))
	b, e := d.o.Head(now, draw)
	switch {
	case used:
		expect(t, "Head", e, api.ErrUsed)
	case e == api.ErrCrash:
		d.power(t, nil, true)
	case e == api.ErrFull:
	default:
		expect(t, "Head", e, api.OK)
		if !bytes.Equal(b, d.ledger.head(t, now, draw)) {
			t.Fatal("another head")
		}
		head, _ := cert.ParseHead(b)
		d.signedOnce(t, "log", d.c.LogScheme, head.Sig)
		d.useLog()
		d.heads = append(d.heads, head)
	}
}

// promises holds all that was told against the office as it is now.
func (d *drawnLife) promises(t *testing.T) {
	t.Helper()
	n := d.o.Count()
	root := slowRoot(d.certs)
	for serial, b := range d.told {
		p, ok := d.o.Path(serial-1, n)
		if !ok || !merkle.Included(merkle.Leaf(b), serial-1, n, p, root) {
			t.Fatalf("the certificate %d that was told is no leaf", serial)
		}
		c, _ := cert.ParseCert(b)
		tbs, _ := c.Tbs()
		if c.Serial != serial || !scheme.Verify(d.c.Scheme, d.o.Root().Key, tbs, c.Sig) {
			t.Fatalf("the certificate %d isn't right", serial)
		}
	}
	for _, head := range d.heads {
		bridge, ok := d.o.Bridge(head.Size, n)
		if !ok || !merkle.Grown(head.Size, n, head.Root, root, bridge) {
			t.Fatalf("the head of %d leaves is no beginning", head.Size)
		}
	}
}

// P19.3 to P19.5: drawn lives with certificates, heads and other commits between crashes.
func TestDrawnLives(t *testing.T) {
	for seed := range int64(16) {
		t.Run(strconv.Itoa(int(seed)), func(t *testing.T) {
			t.Parallel()
			r := rand.New(rand.NewSource(seed))
			d := &drawnLife{r: r, told: map[int][]byte{}, numbers: map[string]bool{}}
			d.house = &house{p: plate.New(700 + r.Intn(1500)), ledger: &ledger{others: map[string]string{}}}
			d.s, _ = store.Open(d.p)
			d.found(t, someConfig([]int{1, 4, 8, 9}[seed%4], []int{9, 4, 8, 1}[seed/4]), 1000)
			for range 40 {
				if r.Intn(4) == 0 {
					d.p.Arm(r.Intn(250))
				}
				switch r.Intn(10) {
				case 0:
					d.power(t, nil, false)
				case 1, 2, 3:
					d.headSome(t)
				default:
					d.issueSome(t)
				}
				d.holds(t)
			}
			d.promises(t)
			if d.crashes < 3 || len(d.told) < 1 {
				t.Error(d.crashes, "crashes,", len(d.told), "certificates told")
			}
		})
	}
}

// P19.5: an opening by hand of the same plate, twice, tells the same.
func TestOpenedAgain(t *testing.T) {
	h := newHouse(t, 9, 9)
	for i := range 4 {
		h.issue(t, ask(t, 1, common("x")), 1000, drawOf(i))
		h.tell(t, i, drawOf(i))
		h.reopen(t)
		h.holds(t)
		h.still(t, "Open", func() { h.o, _ = Open(h.s) })
		h.holds(t)
	}
}
