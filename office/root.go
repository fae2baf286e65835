package office

import (
	"chancery/api"
	"chancery/cert"
	"chancery/scheme"
	"chancery/store"
)

// What stands in the root's certificate.
const (
	rootSerial = 1
	rootLives  = 10
	rootPath   = 0
	rootUsage  = 96
)

const (
	lifeKey   = "ca/life"
	lifeBytes = 8
	mostLife  = 1 << 32
)

// newKeys are the changes that make the keys. The root takes the first number of "ca", which is therefore used up from the beginning.
func (o *Office) newKeys(c Config, ca []byte, log []byte) ([]store.Change, api.Errno) {
	used := 0
	if isCounted(c.Scheme) {
		used = 1
	}
	first, e := o.vault.Change(caName, c.Scheme, ca, used)
	if e != api.OK {
		return nil, e
	}
	second, e := o.vault.Change(logName, c.LogScheme, log, 0)
	if e != api.OK {
		return nil, e
	}
	return []store.Change{first, second}, api.OK
}

// isCounted tells whether the keys of a scheme have so many signatures and no more.
func isCounted(kind int) bool { return kind == 8 || kind == 9 }

// newRoot is the root's certificate in bytes, signed by itself.
func newRoot(c Config, ca []byte, now int, draw []byte) ([]byte, api.Errno) {
	s, e := scheme.Make(c.Scheme, ca)
	if e != api.OK {
		return nil, e
	}
	root := cert.Cert{
		Serial: rootSerial, Scheme: c.Scheme,
		Issuer: c.Name, Subject: c.Name,
		From: now, To: min(now+rootLives*c.Life, api.MaxTime),
		KeyScheme: c.Scheme, Key: s.Public(),
		CA: true, Path: rootPath, Usage: rootUsage,
		Permit: c.Permit, Exclude: c.Exclude,
	}
	tbs, e := root.Tbs()
	if e != api.OK {
		return nil, e
	}
	root.Sig, e = s.Sign(0, tbs, draw)
	if e != api.OK {
		return nil, e
	}
	return inBytes(root)
}

// readRoot reads the root's certificate anew, so that who asks for it has their own.
func (o *Office) readRoot() (cert.Cert, api.Errno) {
	b, _ := o.store.Get(certKey(rootSerial))
	return cert.ParseCert(b)
}

// life is how long what is issued lasts; 0, if the store tells none.
func (o *Office) life() int {
	b, _ := o.store.Get([]byte(lifeKey))
	if len(b) != lifeBytes {
		return 0
	}
	n := 0
	for _, x := range b {
		n = n<<8 | int(x)
	}
	return n
}

func lifeChange(life int) store.Change {
	var b []byte
	for shift := 8 * (lifeBytes - 1); shift >= 0; shift -= 8 {
		b = append(b, byte(life>>shift))
	}
	return store.Change{Key: []byte(lifeKey), Value: b}
}

func isLife(n int) bool { return n >= 1 && n <= mostLife }
