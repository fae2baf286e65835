package name

import (
	"strings"

	"chancery/api"
)

const mostLabel = 63 // bytes of a label

// Within tells whether a name lies within a limit.
func Within(n General, limit General) bool {
	if n.Kind != limit.Kind || isRefused(n, false) || isRefused(limit, true) {
		return false
	}
	switch n.Kind {
	case kindMail:
		return mailWithin(n.Text, limit.Text)
	case kindMachine:
		return machineWithin(n.Text, limit.Text)
	case kindDir:
		return dirWithin(n.Dir, limit.Dir)
	case kindURI:
		return uriWithin(n.Text, limit.Text)
	}
	return addressWithin(n.Text, limit.Text)
}

func isRefused(g General, limit bool) bool {
	_, e := g.Value(limit)
	return e != api.OK
}

func machineWithin(machine, limit string) bool {
	machine, limit = small(machine), small(limit)
	return isMachine(machine) && (limit == "" || machine == limit || strings.HasSuffix(machine, "."+limit))
}

func mailWithin(address, limit string) bool {
	user, host, _ := strings.Cut(address, "@")
	// No machine's name has an @, so there is just one here.
	if user == "" || !isMachine(host) {
		return false
	}
	if limitUser, limitHost, whole := strings.Cut(limit, "@"); whole {
		return user == limitUser && small(host) == small(limitHost)
	}
	return hostWithin(host, limit)
}

func uriWithin(uri, limit string) bool {
	_, host, _ := strings.Cut(uri, "://")
	if end := strings.IndexAny(host, "/:?#"); end >= 0 {
		host = host[:end]
	}
	return isMachine(host) && hostWithin(host, limit)
}

// hostWithin tells whether a machine's name is a limit, or, if that begins with a point, lies below it.
func hostWithin(host, limit string) bool {
	host, limit = small(host), small(limit)
	// No machine's name begins with a point, so something stands ahead of such a limit.
	below := strings.HasPrefix(limit, ".") && strings.HasSuffix(host, limit)
	return limit == "" || host == limit || below
}

func addressWithin(address, limit string) bool {
	size := len(limit) / 2
	if len(address) != size {
		return false
	}
	for i := range size {
		if mask := limit[size+i]; address[i]&mask != limit[i]&mask {
			return false
		}
	}
	return true
}

func dirWithin(d, limit DN) bool {
	return len(d) >= len(limit) && SameDN(d[:len(limit)], limit)
}

// isMachine tells whether a text is a machine's name.
func isMachine(text string) bool {
	for _, label := range strings.Split(text, ".") {
		if !isLabel(label) {
			return false
		}
	}
	return true
}

func isLabel(text string) bool {
	return text != "" && len(text) <= mostLabel && every(text, mayLabel) &&
		text[0] != '-' && text[len(text)-1] != '-'
}
