package office

import (
	"math"
	"slices"
	"strconv"
	"strings"
	"testing"

	"chancery/api"
	"chancery/name"
	"chancery/path"
	"chancery/store"
	"chancery/vault"
)

// P19.1, P19.2: offices of each scheme; they are there when they are opened anew.
func TestFound(t *testing.T) {
	for kind := 1; kind < 10; kind++ {
		h := newHouse(t, kind, 1+(kind+4)%9)
		h.reopen(t)
		h.holds(t)
		r := h.o.Root()
		if !path.Signed(r, kind, r.Key) || r.Serial != 1 || r.From != 1000 || r.To != 11000 || !r.CA || r.Path != 0 || r.Usage != 96 || len(r.Alt) != 0 || len(r.Permit) != 3 || len(r.Exclude) != 2 {
			t.Errorf("of the scheme %d the root is %+v", kind, r)
		}
		if !name.SameDN(r.Subject, h.c.Name) || !name.SameDN(r.Issuer, h.c.Name) {
			t.Errorf("the root's names are %v, %v", r.Subject, r.Issuer)
		}
	}
}

// P19.1: the chapter's bytes, as they stand in the store.
func TestBytes(t *testing.T) {
	h := bare(t, 3000)
	c := someConfig(9, 1)
	c.Life = 0x12345678
	h.found(t, c, 0)
	for range 2 {
		h.issue(t, ask(t, 1, common("x")), 0, drawOf(1))
	}
	want := []string{"ca/life", "cert/0000000000000001", "cert/0000000000000002", "cert/0000000000000003", "key/ca", "key/log"}
	all := pairsOf(h.s)
	if got := keysOf(all); !slices.Equal(got, want) {
		t.Errorf("the store has %q", got)
	}
	if all["ca/life"] != "\x00\x00\x00\x00\x12\x34\x56\x78" {
		t.Errorf("the life is %x", all["ca/life"])
	}
	if all["key/ca"] != "\x09"+string(h.ca)+"\x00\x00\x00\x03" {
		t.Errorf("the key is %x", all["key/ca"])
	}
}

// P19.1: lives and times at their edges.
func TestLivesAndTimes(t *testing.T) {
	for _, x := range []struct{ life, now, to int }{
		{1, 0, 10},
		{1, api.MaxTime, api.MaxTime},
		{1, api.MaxTime - 10, api.MaxTime},
		{1, api.MaxTime - 11, api.MaxTime - 1},
		{1, api.MaxTime - 9, api.MaxTime},
		{1 << 32, 0, 10 << 32},
		{1 << 32, api.MaxTime - 10<<32, api.MaxTime},
		{1 << 32, api.MaxTime - 10<<32 - 1, api.MaxTime - 1},
		{1 << 32, api.MaxTime - 10<<32 + 1, api.MaxTime},
		{1<<32 - 1, 7, 7 + 10*(1<<32-1)},
		{255, 12345, 12345 + 2550},
	} {
		h := bare(t, 1000)
		c := someConfig(1, 4)
		c.Life = x.life
		h.found(t, c, x.now)
		if r := h.o.Root(); r.From != x.now || r.To != x.to {
			t.Errorf("life %d, now %d: the root is from %d to %d", x.life, x.now, r.From, r.To)
		}
		h.reopen(t)
		h.issue(t, ask(t, 1, common("x")), x.now, drawOf(1))
		h.issue(t, ask(t, 1, common("x")), x.to, drawOf(1))
	}
}

// P19.1: names and limits of many kinds, also none.
func TestConfigs(t *testing.T) {
	for i, c := range []Config{
		{Scheme: 1, LogScheme: 1, Life: 1},
		{Scheme: 4, LogScheme: 4, Life: 1, Name: common("x")},
		{Scheme: 1, LogScheme: 9, Life: 5, Exclude: []name.General{machine("")}},
		{Scheme: 1, LogScheme: 8, Life: 5, Permit: []name.General{dir(nil)}},
		{Scheme: 8, LogScheme: 9, Life: 1, Name: common("x"), Permit: []name.General{{Kind: 7, Text: "\x0a\x00\x00\x00\xff\x00\x00\x00"}}, Exclude: []name.General{{Kind: 6, Text: ".example"}}},
	} {
		h := bare(t, 3000)
		h.found(t, c, 99)
		h.reopen(t)
		h.holds(t)
		h.tell(t, 100, drawOf(i))
	}
}

// founding is what is handed to Found.
type founding struct {
	c             Config
	ca, log, draw []byte
	now           int
}

func goodFounding(kind, logKind int) founding {
	return founding{c: someConfig(kind, logKind), ca: seedOf(100), log: seedOf(200), draw: drawOf(0), now: 1000}
}

// refuseFound founds what must be refused so, with nothing written.
func (h *house) refuseFound(t *testing.T, what string, f founding, want api.Errno) {
	t.Helper()
	h.still(t, what, func() {
		o, e := Found(h.s, f.c, f.ca, f.log, f.now, f.draw)
		expect(t, what, e, want)
		if o != nil {
			t.Fatalf("%s: beside an error there is an office", what)
		}
	})
}

// with is a founding that was edited.
func with(edit func(f *founding)) founding {
	f := goodFounding(1, 4)
	edit(&f)
	return f
}

// wrongFoundings are foundings with one thing wrong each, by the errors, in their order.
func wrongFoundings() (list []founding, errors []api.Errno) {
	add := func(want api.Errno, edit func(f *founding)) {
		list, errors = append(list, with(edit)), append(errors, want)
	}
	for _, n := range []int{0, -1, 1<<32 + 1, math.MinInt, math.MaxInt, 1 << 62} {
		add(api.ErrForm, func(f *founding) { f.c.Life = n })
	}
	for _, n := range []int{-1, api.MaxTime + 1, math.MinInt, math.MaxInt} {
		add(api.ErrTime, func(f *founding) { f.now = n })
	}
	for _, n := range []int{0, 1, 16, 31, 33, 64, 256 + 32} {
		add(api.ErrKey, func(f *founding) { f.draw = drawn(1, n) })
	}
	for _, kind := range []int{0, 10, -1, 256 + 1, math.MinInt} {
		add(api.ErrSet, func(f *founding) { f.c.Scheme = kind })
	}
	for _, n := range []int{0, 31, 33, 64, 256 + 32} {
		add(api.ErrKey, func(f *founding) { f.ca = drawn(1, n) })
	}
	for _, kind := range []int{0, 10, -1, 256 + 1, math.MaxInt} {
		add(api.ErrSet, func(f *founding) { f.c.LogScheme = kind })
	}
	for _, n := range []int{0, 31, 33, 64, 256 + 32} {
		add(api.ErrKey, func(f *founding) { f.log = drawn(1, n) })
	}
	add(api.ErrName, func(f *founding) { f.c.Name = common("") })
	add(api.ErrForm, func(f *founding) { f.c.Name = name.DN{{Type: "x", Text: "x"}} })
	add(api.ErrForm, func(f *founding) { f.c.Permit = []name.General{{Kind: 3}} })
	add(api.ErrForm, func(f *founding) { f.c.Permit = slices.Repeat([]name.General{machine("a")}, api.MaxList+1) })
	add(api.ErrName, func(f *founding) { f.c.Exclude = []name.General{machine(strings.Repeat("a", api.MaxName+1))} })
	add(api.ErrForm, func(f *founding) { f.c.Exclude = slices.Repeat([]name.General{machine("a")}, api.MaxList+1) })
	add(api.ErrBig, func(f *founding) {
		f.c.Permit = slices.Repeat([]name.General{machine(strings.Repeat("a", api.MaxName))}, 120)
	})
	return list, errors
}

// P19.1: each thing that is wrong by itself.
func TestFoundRefused(t *testing.T) {
	h := bare(t, 3000)
	list, errors := wrongFoundings()
	for i, f := range list {
		h.refuseFound(t, strconv.Itoa(i), f, errors[i])
		if _, e := Open(h.s); e != api.ErrNone {
			t.Errorf("behind %d Open answers %d", i, e)
		}
	}
	h.found(t, someConfig(9, 9), 1000)
	for i, f := range append(list, goodFounding(1, 4), goodFounding(9, 9)) {
		h.refuseFound(t, "there is one, "+strconv.Itoa(i), f, api.ErrTwice)
		h.holds(t)
	}
	h.reopen(t)
	h.refuseFound(t, "there is one", goodFounding(9, 9), api.ErrTwice)
	h.holds(t)
}

// P19.1: of two things that are wrong the first one named is told.
func TestFoundOrder(t *testing.T) {
	edits := []struct {
		want api.Errno
		edit func(f *founding)
	}{
		{api.ErrForm, func(f *founding) { f.c.Life = 0 }},
		{api.ErrTime, func(f *founding) { f.now = -1 }},
		{api.ErrTime, func(f *founding) { f.now = api.MaxTime + 1 }},
		{api.ErrKey, func(f *founding) { f.draw = nil }},
		{api.ErrSet, func(f *founding) { f.c.Scheme = 0 }},
		{api.ErrKey, func(f *founding) { f.ca = nil }},
		{api.ErrSet, func(f *founding) { f.c.LogScheme = 10 }},
		{api.ErrKey, func(f *founding) { f.log = nil }},
		{api.ErrName, func(f *founding) { f.c.Name = common("") }},
		{api.ErrBig, func(f *founding) {
			f.c.Permit = slices.Repeat([]name.General{machine(strings.Repeat("a", api.MaxName))}, 120)
		}},
	}
	h := bare(t, 100) // too small for the office
	closed := bare(t, 100)
	closed.p.Arm(0)
	expect(t, "a crash", closed.s.Commit([]store.Change{{Key: []byte("a")}}), api.ErrCrash)
	for set := 1; set < 1<<len(edits); set++ {
		f := goodFounding(1, 4)
		var want api.Errno
		for i, x := range slices.Backward(edits) {
			if set>>i&1 == 1 {
				x.edit(&f)
				want = x.want
			}
		}
		h.refuseFound(t, strconv.FormatInt(int64(set), 2), f, want)
		if _, e := Found(closed.s, f.c, f.ca, f.log, f.now, f.draw); e != want {
			t.Errorf("of a closed store, %b: %d, want %d", set, e, want)
		}
	}
	f := goodFounding(1, 4)
	h.refuseFound(t, "no room", f, api.ErrFull)
	if o, e := Found(closed.s, f.c, f.ca, f.log, f.now, f.draw); e != api.ErrClosed || o != nil {
		t.Errorf("of a closed store: %v, %d", o, e)
	}
}

// P19.1: the errors of layer 18's Change of "log" stand behind those of "ca", whatever is wrong with it.
func TestFoundTakenKeys(t *testing.T) {
	for _, taken := range []string{"ca", "log"} {
		h := bare(t, 3000)
		expect(t, "Create", vault.Open(h.s).Create(taken, 4, seedOf(1)), api.OK)
		if _, e := Open(h.s); e != api.ErrNone {
			t.Errorf("a key alone: Open answers %d", e)
		}
		h.refuseFound(t, taken, goodFounding(1, 4), api.ErrTwice)
		h.refuseFound(t, taken, with(func(f *founding) { f.c.Life = 0 }), api.ErrForm)
		h.refuseFound(t, taken, with(func(f *founding) { f.now = -1 }), api.ErrTime)
		h.refuseFound(t, taken, with(func(f *founding) { f.draw = nil }), api.ErrKey)
		h.refuseFound(t, taken, with(func(f *founding) { f.c.Name = common("") }), api.ErrTwice)
		first, second := api.ErrTwice, api.ErrTwice
		if taken == "log" {
			first = api.ErrSet
		} else {
			second = api.ErrTwice
		}
		h.refuseFound(t, taken, with(func(f *founding) { f.c.Scheme = 0 }), first)
		h.refuseFound(t, taken, with(func(f *founding) { f.c.LogScheme = 0 }), second)
	}
}

// P19.1: other keys and other pairs in the store are theirs.
func TestFoundAmongOthers(t *testing.T) {
	h := bare(t, 3000)
	for _, k := range []string{"cert", "cert/", "ca", "ca/", "ca/lifes", "key", "rev/0000000000000001", "front/age", "cert/1", "cert/0000000000000000", "acct/00000001"} {
		h.others[k] = "x" + k
		expect(t, "Commit", h.s.Commit([]store.Change{{Key: []byte(k), Value: []byte("x" + k)}}), api.OK)
	}
	h.found(t, someConfig(9, 1), 1000)
	h.issue(t, ask(t, 1, common("x")), 1000, drawOf(1))
	h.reopen(t)
	h.holds(t)
}

// bigFounding is a founding whose root has so many bytes.
func bigFounding(t *testing.T, kind, size int) founding {
	t.Helper()
	f := goodFounding(kind, 4)
	f.c.Permit, f.c.Exclude = nil, nil
	for range 250 {
		l := &ledger{c: f.c, ca: f.ca}
		l.found(t, f.now, f.draw)
		rest := size - len(l.certs[0])
		if rest == 0 {
			return f
		}
		if rest < 0 {
			t.Fatalf("no such root: %d bytes too many", -rest)
		}
		// A limit takes its text and four bytes more, once there are some.
		length := min(rest-4, api.MaxName)
		if more := rest - 4 - length; more > 0 && more < 10 {
			length -= 10
		}
		f.c.Permit = append(f.c.Permit, machine(strings.Repeat("a", max(length, 0))))
	}
	t.Fatal("no such root")
	return f
}

// P19.1: a root of just MaxValue bytes, and one of more.
func TestFoundBig(t *testing.T) {
	for _, kind := range []int{1, 4, 9} {
		h := bare(t, 3000)
		h.refuseFound(t, "a byte more", bigFounding(t, kind, api.MaxValue+1), api.ErrBig)
		h.refuseFound(t, "more", bigFounding(t, kind, api.MaxValue+200), api.ErrBig)
		h.found(t, bigFounding(t, kind, api.MaxValue).c, 1000)
		if b, ok := h.o.Cert(1); !ok || len(b) != api.MaxValue {
			t.Errorf("the root has %d bytes", len(b))
		}
	}
	f := goodFounding(1, 4)
	f.c.Permit = slices.Repeat([]name.General{dir(slices.Repeat(common(strings.Repeat("x", 60)), 16))}, 256)
	bare(t, 3000).refuseFound(t, "more than MaxBytes", f, api.ErrBig)
}

// P19.2: there is no office without all that it has.
func TestOpenNone(t *testing.T) {
	h := newHouse(t, 1, 9)
	h.issue(t, ask(t, 1, common("x")), 1000, drawOf(1))
	all := pairsOf(h.s)
	for _, x := range []struct {
		key    string
		values []string // of which there is no office
	}{
		{"ca/life", []string{"", "\x01", strings.Repeat("\x00", 8), "\x00\x00\x00\x00\x00\x00\x01", "\x00\x00\x00\x00\x00\x00\x00\x00\x01", "\x00\x00\x00\x01\x00\x00\x00\x01", strings.Repeat("\xff", 8), "\x80\x00\x00\x00\x00\x00\x00\x01"}},
		{"key/ca", []string{"", "x", all["key/ca"] + "x"}},
		{"key/log", []string{"", "x", all["key/log"][1:]}},
		{"cert/0000000000000001", []string{"", "x", all["cert/0000000000000001"][1:], all["cert/0000000000000001"] + "x"}},
	} {
		none := func(what string, c store.Change) {
			t.Helper()
			expect(t, "Commit", h.s.Commit([]store.Change{c}), api.OK)
			h.still(t, what, func() {
				if o, e := Open(h.s); e != api.ErrNone || o != nil {
					t.Errorf("%s: %v, %d", what, o, e)
				}
			})
		}
		none("without "+x.key, store.Change{Key: []byte(x.key), Gone: true})
		for _, value := range x.values {
			none(x.key+" is "+strconv.Quote(value), store.Change{Key: []byte(x.key), Value: []byte(value)})
		}
		expect(t, "Commit", h.s.Commit([]store.Change{{Key: []byte(x.key), Value: []byte(all[x.key])}}), api.OK)
		h.still(t, "all is there", func() { h.reopen(t) })
		h.holds(t)
	}
}
