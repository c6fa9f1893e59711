package index

import (
	"bytes"
	"iter"
	"slices"

	"purser/api"
	"purser/coin"
)

// versions produces the versions of an outpoint, in order.
func (x *Index) versions(p api.Outpoint) iter.Seq[*api.Version] {
	return func(yield func(*api.Version) bool) {
		for v := range x.byPoint.from(&api.Version{Point: p}) {
			if v.Point != p || !yield(v) {
				return
			}
		}
	}
}

// At is the version of an outpoint at a height, and whether there is one.
func (x *Index) At(p api.Outpoint, height int) (api.Version, bool) {
	if x.none() {
		return api.Version{}, false
	}
	var last *api.Version
search:
	for v := range x.versions(p) {
		if !coin.There(*v, height) {
			continue search
		}
		last = v
	}
	if last == nil {
		return api.Version{}, false
	}
	return copied(last), true
}

// History are all versions of an outpoint.
func (x *Index) History(p api.Outpoint) []api.Version {
	if x.none() {
		return nil
	}
	var l []api.Version
	for v := range x.versions(p) {
		l = append(l, copied(v))
	}
	return l
}

// All are the versions at a height.
func (x *Index) All(height int) []api.Version {
	var l []api.Version
	if x.none() {
		return l
	}
search:
	for v := range x.byPoint.from(&api.Version{}) {
		if !coin.There(*v, height) {
			continue search
		}
		l = append(l, copied(v))
	}
	return l
}

// Of are the versions at a height that have a script.
func (x *Index) Of(script []byte, height int) []api.Version {
	var l []api.Version
	if x.none() {
		return l
	}
search:
	for v := range x.byScript.from(&api.Version{Script: script}) {
		switch {
		case !bytes.Equal(v.Script, script):
			break search
		case !coin.There(*v, height):
			continue search
		}
		l = append(l, copied(v))
	}
	return l
}

// Scripts are the scripts of the versions at a height.
func (x *Index) Scripts(height int) [][]byte {
	var l [][]byte
	if x.none() {
		return l
	}
search:
	for v := range x.byScript.from(&api.Version{}) {
		known := len(l) > 0 && bytes.Equal(l[len(l)-1], v.Script)
		if known || !coin.There(*v, height) {
			continue search
		}
		l = append(l, slices.Clone(v.Script))
	}
	return l
}

// Every are all versions.
func (x *Index) Every() []api.Version {
	var l []api.Version
	if x.none() {
		return l
	}
	for v := range x.byPoint.from(&api.Version{}) {
		l = append(l, copied(v))
	}
	return l
}
