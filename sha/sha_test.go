package sha

import (
	"bytes"
	"crypto/hmac"
	"crypto/sha256"
	"encoding/hex"
	"slices"
	"strings"
	"testing"
)

// message is n bytes, no two near ones alike.
func message(n int) []byte {
	b := make([]byte, n)
	for i := range b {
		b[i] = byte(i*7 + i/256*3 + 1)
	}
	return b
}

func wantSum(b []byte) []byte {
	s := sha256.Sum256(b)
	return s[:]
}

func wantMac(key, b []byte) []byte {
	h := hmac.New(sha256.New, key)
	h.Write(b)
	return h.Sum(nil)
}

// P1.1: sums that the document and the standard print.
func TestSumKnown(t *testing.T) {
	cases := []struct{ text, want string }{
		{"", "e3b0c44298fc1c149afbf4c8996fb92427ae41e4649b934ca495991b7852b855"},
		{"abc", "ba7816bf8f01cfea414140de5dae2223b00361a396177a9cb410ff61f20015ad"},
		{"abcdbcdecdefdefgefghfghighijhijkijkljklmklmnlmnomnopnopq", "248d6a61d20638b8e5c026930c3e6039a33ce45964ff2167f6ecedd419db06c1"},
		{"abcdefghbcdefghicdefghijdefghijkefghijklfghijklmghijklmnhijklmnoijklmnopjklmnopqklmnopqrlmnopqrsmnopqrstnopqrstu", "cf5b16a778af8380036ce59e7b0492370b249b11e8f07a51afac45037afee9d1"},
		{strings.Repeat("a", 1000000), "cdc76e5c9914fb9281a1c7e284d73e67f1809a48a497200e046d39ccc7112cd0"},
	}
	for _, c := range cases {
		if got := hex.EncodeToString(Sum([]byte(c.text))); got != c.want {
			t.Errorf("Sum of %d bytes %.10q: %s, want %s", len(c.text), c.text, got, c.want)
		}
	}
}

// P1.1: nil and empty are one.
func TestNilIsEmpty(t *testing.T) {
	if !bytes.Equal(Sum(nil), Sum([]byte{})) {
		t.Error("Sum(nil) is not Sum of an empty list")
	}
	want := wantMac(nil, nil)
	for _, none := range [][]byte{nil, {}} {
		if got := Mac(none, none); !bytes.Equal(got, want) {
			t.Errorf("Mac of nothing: %x, want %x", got, want)
		}
	}
	h := New()
	h.Write(nil)
	h.Write([]byte{})
	if h.Len() != 0 || !bytes.Equal(h.Sum(), wantSum(nil)) {
		t.Error("being told nothing changed the object")
	}
}

// P1.1: every length over several blocks, so also 55, 56, 63, 64, 119, 120 .., where the padding takes another block.
func TestSumLengths(t *testing.T) {
	for n := range 5*block + 1 {
		b := message(n)
		if got, want := Sum(b), wantSum(b); !bytes.Equal(got, want) {
			t.Errorf("Sum of %d bytes: %x, want %x", n, got, want)
		}
	}
}

// P1.1: the length stands in all eight bytes, in bits, the highest first.
func TestPaddingLength(t *testing.T) {
	for _, told := range []int{0, 1, 31, 32, 8191, 8192, 1<<21 - 1, 1 << 21, 1<<29 - 1, 1 << 29, 1<<31 - 1} {
		p := padding(told)
		if (told+len(p))%block != 0 || len(p) > block+8 || p[0] != 0x80 {
			t.Fatalf("padding of %d bytes: %x", told, p)
		}
		number := uint64(0)
		for _, c := range p[len(p)-8:] {
			number = number<<8 | uint64(c)
		}
		if number != 8*uint64(told) {
			t.Errorf("padding of %d bytes tells %d bits", told, number)
		}
		for _, c := range p[1 : len(p)-8] {
			if c != 0 {
				t.Errorf("padding of %d bytes: %x", told, p)
			}
		}
	}
}

// P1.1: codes of RFC 4231.
func TestMacKnown(t *testing.T) {
	long := strings.Repeat("\xaa", 131)
	cases := []struct{ key, text, want string }{
		{strings.Repeat("\x0b", 20), "Hi There", "b0344c61d8db38535ca8afceaf0bf12b881dc200c9833da726e9376c2e32cff7"},
		{"Jefe", "what do ya want for nothing?", "5bdcc146bf60754e6a042426089575c75a003f089d2739839dec58b964ec3843"},
		{strings.Repeat("\xaa", 20), strings.Repeat("\xdd", 50), "773ea91e36800e46854db8ebd09181a72959098b3ef8c122d9635514ced565fe"},
		{long, "Test Using Larger Than Block-Size Key - Hash Key First", "60e431591ee0b67f0d8a26aacbf5b77f8e0bc6213728c5140546040f0ee37f54"},
		{long, "This is a test using a larger than block-size key and a larger than block-size data. The key needs to be hashed before being used by the HMAC algorithm.", "9b09ffa71b942fcb27635fbcd5b0e944bfdc63644f0713938a7f51535c3a35e2"},
	}
	for _, c := range cases {
		if got := hex.EncodeToString(Mac([]byte(c.key), []byte(c.text))); got != c.want {
			t.Errorf("Mac of %.10q: %s, want %s", c.text, got, c.want)
		}
	}
}

// P1.1: keys of 64 bytes, fewer and more.
func TestMacLengths(t *testing.T) {
	for k := range 3*block + 1 {
		for _, n := range []int{0, 1, 54, 55, 56, 63, 64, 65, 119, 120, 128, 200} {
			key, b := message(k), message(n)
			if got, want := Mac(key, b), wantMac(key, b); !bytes.Equal(got, want) {
				t.Errorf("Mac of %d bytes under a key of %d: %x, want %x", n, k, got, want)
			}
		}
	}
}

// P1.1: a short key is filled up with bytes 0, a long one is its sum; one of 64 bytes is itself.
func TestMacKeys(t *testing.T) {
	b := message(100)
	short := message(20)
	filled := append(slices.Clone(short), make([]byte, block-len(short))...)
	if !bytes.Equal(Mac(short, b), Mac(filled, b)) {
		t.Error("a short key is not filled up with bytes 0")
	}
	long := message(block + 1)
	if !bytes.Equal(Mac(long, b), Mac(Sum(long), b)) {
		t.Error("a key of 65 bytes is not its sum")
	}
	whole := message(block)
	if bytes.Equal(Mac(whole, b), Mac(Sum(whole), b)) {
		t.Error("a key of 64 bytes is taken for its sum")
	}
}

// P1.2: told in pieces of one length, asked behind each.
func TestPieces(t *testing.T) {
	b := message(4*block + 9)
	for size := 1; size <= 2*block+2; size++ {
		h := New()
		for at := 0; at < len(b); {
			end := min(at+size, len(b))
			h.Write(b[at:end])
			at = end
			if h.Len() != at {
				t.Fatalf("pieces of %d: Len %d behind %d bytes", size, h.Len(), at)
			}
			want := wantSum(b[:at])
			if got := h.Sum(); !bytes.Equal(got, want) {
				t.Fatalf("pieces of %d: Sum of %d bytes %x, want %x", size, at, got, want)
			}
			if got := h.Sum(); !bytes.Equal(got, want) || h.Len() != at {
				t.Fatalf("pieces of %d: asked again at %d bytes: %x, Len %d", size, at, got, h.Len())
			}
		}
	}
}

// P1.2: a message cut in two at any place, not asked in between.
func TestTwoPieces(t *testing.T) {
	for _, n := range []int{55, 56, 63, 64, 65, 119, 120, 128, 129, 200} {
		b := message(n)
		want := wantSum(b)
		for cut := range n + 1 {
			h := New()
			h.Write(b[:cut])
			h.Write(b[cut:])
			if got := h.Sum(); !bytes.Equal(got, want) || h.Len() != n {
				t.Errorf("%d bytes cut at %d: %x, Len %d, want %x", n, cut, got, h.Len(), want)
			}
		}
	}
}

// P1.2: a new object was told nothing, and knows nothing of others.
func TestObjectsApart(t *testing.T) {
	a, b := New(), New()
	if a.Len() != 0 || !bytes.Equal(a.Sum(), wantSum(nil)) {
		t.Error("a new object was told something")
	}
	first, second := message(100), message(70)[3:]
	a.Write(first[:60])
	b.Write(second[:30])
	a.Write(first[60:])
	b.Write(second[30:])
	if !bytes.Equal(a.Sum(), wantSum(first)) || !bytes.Equal(b.Sum(), wantSum(second)) {
		t.Error("two objects know of each other")
	}
	if c := New(); c.Len() != 0 || !bytes.Equal(c.Sum(), wantSum(nil)) {
		t.Error("an object that is made later was told something")
	}
}

// roomy is n bytes with spare room behind them, and the whole of it.
func roomy(n int) (b, whole []byte) {
	whole = message(n + 200)
	return whole[:n], whole
}

// The rules on memory: what is handed in is not changed, its spare room neither.
func TestArgumentsUnchanged(t *testing.T) {
	for _, n := range []int{0, 1, 32, 55, 56, 63, 64, 65, 130} {
		key, wholeKey := roomy(n)
		b, whole := roomy(n)
		h := New()
		h.Write(b)
		h.Sum()
		Sum(b)
		Mac(key, b)
		if !bytes.Equal(whole, message(n+200)) || !bytes.Equal(wholeKey, message(n+200)) {
			t.Errorf("%d bytes handed in were changed", n)
		}
	}
}

// The rules on memory: what is handed in is not kept.
func TestArgumentsNotKept(t *testing.T) {
	for _, n := range []int{1, 63, 64, 65, 130} {
		b := message(n)
		h := New()
		h.Write(b)
		clear(b)
		h.Write(message(5))
		if got, want := h.Sum(), wantSum(append(message(n), message(5)...)); !bytes.Equal(got, want) {
			t.Errorf("%d bytes were kept: %x, want %x", n, got, want)
		}
	}
}

// The rules on memory: each answer is new, its spare room too.
func TestAnswersNew(t *testing.T) {
	h := New()
	h.Write(message(70))
	key, b := message(32), message(70)
	answers := map[string]func() []byte{
		"Hash.Sum":  h.Sum,
		"Sum":       func() []byte { return Sum(b) },
		"Mac":       func() []byte { return Mac(key, b) },
		"Mac (64)":  func() []byte { return Mac(message(64), b) },
		"Mac (100)": func() []byte { return Mac(message(100), b) },
	}
	for what, ask := range answers {
		first := ask()
		kept := slices.Clone(first)
		if len(first) != 32 {
			t.Errorf("%s: %d bytes", what, len(first))
		}
		second := ask()
		clear(first[:cap(first)])
		if !bytes.Equal(second, kept) {
			t.Errorf("%s: two answers share memory", what)
		}
		if third := ask(); !bytes.Equal(third, kept) {
			t.Errorf("%s: an answer that was changed changes the next", what)
		}
	}
	h.Write(message(3))
	if !bytes.Equal(h.Sum(), wantSum(append(message(70), message(3)...))) {
		t.Error("an answer that was changed changed the object")
	}
}
