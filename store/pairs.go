package store

import (
	"slices"
	"strings"
)

// pairs are values by their keys. A value is never changed in its place, so that two of them may share it.
type pairs map[string][]byte

// do does changes, one after the other.
func (p pairs) do(list []Change) {
	for _, c := range list {
		if c.Gone {
			delete(p, string(c.Key))
		} else {
			p[string(c.Key)] = slices.Clone(c.Value)
		}
	}
}

// keys are those with a prefix, rising.
func (p pairs) keys(prefix string) []string {
	var keys []string
	for k := range p {
		if strings.HasPrefix(k, prefix) {
			keys = append(keys, k)
		}
	}
	slices.Sort(keys)
	return keys
}

// changes are those that lead to the pairs from none, by their keys rising.
func (p pairs) changes() []Change {
	var list []Change
	for _, k := range p.keys("") {
		list = append(list, Change{Key: []byte(k), Value: p[k]})
	}
	return list
}
