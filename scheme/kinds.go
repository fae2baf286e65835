package scheme

import (
	"chancery/api"
	"chancery/dsa"
	"chancery/lms"
	"chancery/shake"
	"chancery/slh"
)

const (
	mostTries    = 200
	identitySize = 16 // of the keys of layer 7
	treeSeedSize = 32 // likewise
)

// A kind is the one form that the layers below are brought into.
type kind interface {
	keys(seed []byte) (public, secret []byte, e api.Errno)
	count(secret []byte) int
	sign(secret []byte, n int, msg, draw []byte) ([]byte, api.Errno)
	verify(public, msg, sig []byte) bool
	size() int
}

// find is the kind of a scheme, and whether it is one.
func find(scheme int) (kind, bool) {
	switch scheme {
	case 1:
		return lattice{set: 44}, true
	case 2:
		return lattice{set: 65}, true
	case 3:
		return lattice{set: 87}, true
	case 4:
		return hashes{set: 1, n: 16}, true
	case 5:
		return hashes{set: 2, n: 16}, true
	case 6:
		return hashes{set: 3, n: 24}, true
	case 7:
		return hashes{set: 4, n: 32}, true
	case 8:
		return trees{levels: 2, height: 2, width: 4, bytes: 4564}, true
	case 9:
		return trees{levels: 1, height: 3, width: 2, bytes: 4400}, true
	}
	return nil, false
}

// A lattice is a kind of layer 5.
type lattice struct{ set int }

func (l lattice) keys(seed []byte) (public, secret []byte, e api.Errno) {
	return dsa.Keys(l.set, seed)
}

func (l lattice) count([]byte) int { return 0 }

func (l lattice) sign(secret []byte, _ int, msg, draw []byte) ([]byte, api.Errno) {
	return dsa.Sign(l.set, secret, nil, msg, draw, mostTries)
}

func (l lattice) verify(public, msg, sig []byte) bool {
	return dsa.Verify(l.set, public, nil, msg, sig)
}

func (l lattice) size() int {
	_, _, sig := dsa.Sizes(l.set)
	return sig
}

// Hashes are a kind of layer 6, whose seeds have n bytes.
type hashes struct{ set, n int }

func (h hashes) keys(seed []byte) (public, secret []byte, e api.Errno) {
	drawn := shake.Sum256(seed, 3*h.n)
	return slh.Keys(h.set, drawn[:h.n], drawn[h.n:2*h.n], drawn[2*h.n:])
}

func (h hashes) count([]byte) int { return 0 }

func (h hashes) sign(secret []byte, _ int, msg, draw []byte) ([]byte, api.Errno) {
	return slh.Sign(h.set, secret, nil, msg, draw[:h.n])
}

func (h hashes) verify(public, msg, sig []byte) bool {
	return slh.Verify(h.set, public, nil, msg, sig)
}

func (h hashes) size() int {
	_, _, sig := slh.Sizes(h.set)
	return sig
}

// Trees are a kind of layer 7; bytes are those of a signature, which that layer doesn't tell.
type trees struct{ levels, height, width, bytes int }

// key is layer 7's of a secret: the identity and, behind it, the seed.
func (t trees) key(secret []byte) lms.Key {
	return lms.Key{
		Levels:   t.levels,
		Height:   t.height,
		Width:    t.width,
		Identity: secret[:identitySize],
		Seed:     secret[identitySize:],
	}
}

func (t trees) keys(seed []byte) (public, secret []byte, e api.Errno) {
	secret = shake.Sum256(seed, identitySize+treeSeedSize)
	public, e = lms.Public(t.key(secret))
	return public, secret, e
}

func (t trees) count(secret []byte) int { return t.key(secret).Count() }

func (t trees) sign(secret []byte, n int, msg, _ []byte) ([]byte, api.Errno) {
	return lms.Sign(t.key(secret), n, msg)
}

func (t trees) verify(public, msg, sig []byte) bool { return lms.Verify(public, msg, sig) }

func (t trees) size() int { return t.bytes }
