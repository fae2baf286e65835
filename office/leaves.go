package office

import (
	"strconv"
	"strings"

	"chancery/api"
	"chancery/cert"
	"chancery/store"
)

const (
	certPrefix = "cert/"
	hexDigits  = 16
)

// Count is how many certificates there are.
func (o *Office) Count() int {
	o.grow()
	return o.leaves.Size()
}

// Cert is one.
func (o *Office) Cert(serial int) ([]byte, bool) {
	if serial < rootSerial || serial > o.Count() {
		return nil, false
	}
	return o.store.Get(certKey(serial))
}

// Path is a leaf's path.
func (o *Office) Path(m int, n int) ([][]byte, bool) {
	o.grow()
	return o.leaves.Path(m, n)
}

// Bridge leads from one tree to a later one.
func (o *Office) Bridge(m int, n int) ([][]byte, bool) {
	o.grow()
	return o.leaves.Bridge(m, n)
}

// Head tells a signed head.
func (o *Office) Head(now int, draw []byte) ([]byte, api.Errno) {
	if len(draw) != drawSize {
		return nil, api.ErrKey
	}
	if !isTime(now) {
		return nil, api.ErrTime
	}
	h := cert.Head{Size: o.Count(), Time: now}
	h.Root, _ = o.leaves.Root(h.Size)
	tbs, e := h.Tbs()
	if e != api.OK {
		return nil, e
	}
	h.Sig, e = o.vault.Sign(logName, tbs, draw)
	if e != api.OK {
		return nil, e
	}
	h.Scheme, _, e = o.vault.Public(logName)
	if e != api.OK {
		return nil, e
	}
	return h.Encode()
}

// grow takes in the certificates that the store has by now: only what is committed is a leaf.
func (o *Office) grow() {
	for {
		b, ok := o.store.Get(certKey(o.leaves.Size() + 1))
		if !ok {
			return
		}
		o.leaves.Add(b)
	}
}

// certKey is the key of a serial from 0 on.
func certKey(serial int) []byte {
	digits := strconv.FormatInt(int64(serial), 16)
	return []byte(certPrefix + strings.Repeat("0", hexDigits-len(digits)) + digits)
}

func certChange(serial int, b []byte) store.Change {
	return store.Change{Key: certKey(serial), Value: b}
}
