package lms

import "chancery/sha"

// Sizes in bytes.
const (
	hashSize     = 32
	identitySize = 16
	numberSize   = 4
)

// What is hashed at a spot, but for the chains, which are told by their numbers.
const (
	markKey      = 0x8080
	markMessage  = 0x8181
	markLeaf     = 0x8282
	markNode     = 0x8383
	markC        = 0xfffd
	markSeed     = 0xfffe
	markIdentity = 0xffff
)

const secretByte = 0xff // no step has this number

// A spot is the place of a leaf or of a node: a tree's identity, and a number in it.
type spot struct {
	identity []byte
	number   int
}

// hash is the sum of the parts at a spot, and of what they are.
func (s spot) hash(what int, parts ...[]byte) []byte {
	h := sha.New()
	h.Write(s.identity)
	h.Write(four(s.number))
	h.Write(two(what))
	for _, p := range parts {
		h.Write(p)
	}
	return h.Sum()
}

// secret is what comes of a seed at a spot, and of what it is for.
func (s spot) secret(what int, seed []byte) []byte { return s.hash(what, []byte{secretByte}, seed) }

// two is a number in two bytes.
func two(n int) []byte { return []byte{byte(n >> 8), byte(n)} }

// four is a number in four bytes.
func four(n int) []byte { return []byte{byte(n >> 24), byte(n >> 16), byte(n >> 8), byte(n)} }

// number is what four wrote.
func number(b []byte) int {
	n := 0
	for _, c := range b {
		n = n<<8 | int(c)
	}
	return n
}
