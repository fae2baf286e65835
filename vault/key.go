package vault

import "chancery/scheme"

const (
	mostLetters = 8
	seedSize    = 32
	nextBytes   = 4
	keySize     = 1 + seedSize + nextBytes
)

// secret is what a signer is made of.
type secret struct {
	scheme int
	seed   [seedSize]byte
}

// key is what the store keeps under a name.
type key struct {
	secret
	next int // the number of the next signature; 0 of a key that has as many as one likes
}

// isName tells whether a text names a key.
func isName(text string) bool {
	if len(text) < 1 || len(text) > mostLetters {
		return false
	}
	for i := range len(text) {
		if text[i] < 'a' || text[i] > 'z' {
			return false
		}
	}
	return true
}

func newKey(kind int, seed []byte, next int) key {
	k := key{secret: secret{scheme: kind}, next: next}
	copy(k.seed[:], seed)
	return k
}

// writeKey writes the scheme, the seed, and the next number, its highest byte first.
func writeKey(k key) []byte {
	b := append([]byte{byte(k.scheme)}, k.seed[:]...)
	for shift := 8 * (nextBytes - 1); shift >= 0; shift -= 8 {
		b = append(b, byte(k.next>>shift))
	}
	return b
}

// readKey reads what writeKey writes; false, if the bytes are of no key.
func readKey(b []byte) (key, bool) {
	if len(b) != keySize || scheme.Size(int(b[0])) == 0 {
		return key{}, false
	}
	next := 0
	for _, x := range b[1+seedSize:] {
		next = next<<8 | int(x)
	}
	return newKey(int(b[0]), b[1:1+seedSize], next), true
}
