package store

import (
	"bytes"
	"cmp"
	"slices"

	"purser/api"
)

// at is what there is at a height.
func (s *Store) at(height int) (api.Info, api.Errno) {
	switch {
	case s.none():
		return api.Info{}, api.ErrNil
	case height < 0 || height > s.Tip():
		return api.Info{}, api.ErrHeight
	}
	return s.levels[height].info, api.OK
}

// Info is what there is at a height.
func (s *Store) Info(height int) (api.Info, api.Errno) { return s.at(height) }

// Block is the hash of the block at a height.
func (s *Store) Block(height int) (api.Hash, api.Errno) {
	info, e := s.at(height)
	return info.Block, e
}

// Coin is the version of an outpoint at a height, and whether there is one.
func (s *Store) Coin(p api.Outpoint, height int) (api.Version, bool, api.Errno) {
	if _, e := s.at(height); e != api.OK {
		return api.Version{}, false, e
	}
	v, there := s.index.At(p, height)
	return asOf(v, height), there, api.OK
}

// asOf is a version as it was at a height.
func asOf(v api.Version, height int) api.Version {
	if v.Spent > height {
		v.Spent, v.Spender = 0, api.Hash{}
	}
	return v
}

// Trace are the versions of an outpoint up to a height, as they were at it.
func (s *Store) Trace(p api.Outpoint, height int) ([]api.Version, api.Errno) {
	if _, e := s.at(height); e != api.OK {
		return nil, e
	}
	var l []api.Version
	for _, v := range s.index.History(p) {
		if v.Made <= height {
			l = append(l, asOf(v, height))
		}
	}
	return l, api.OK
}

// Balance is how much a script has at a height.
func (s *Store) Balance(script []byte, height int) (int64, api.Errno) {
	if _, e := s.at(height); e != api.OK {
		return 0, e
	}
	sum := int64(0)
	for _, v := range s.index.Of(script, height) {
		sum += v.Value
	}
	return sum, api.OK
}

// Rich are the first k scripts at a height, those that have most ahead.
func (s *Store) Rich(k, height int) ([]api.Rich, api.Errno) {
	if _, e := s.at(height); e != api.OK {
		return nil, e
	}
	var l []api.Rich
	for script, b := range s.balances(height) {
		l = append(l, api.Rich{Script: []byte(script), Balance: b.value})
	}
	slices.SortFunc(l, compareRich)
	return l[:min(max(0, k), len(l))], api.OK
}

func compareRich(a, b api.Rich) int {
	return cmp.Or(cmp.Compare(b.Balance, a.Balance), bytes.Compare(a.Script, b.Script))
}

// balance is what a script has: a value, and how many coins, which may all be worth nothing.
type balance struct {
	value int64
	coins int
}

// balances are what the scripts that have coins at a height have, by the bytes of the scripts.
func (s *Store) balances(height int) map[string]balance {
	all := map[string]balance{}
	for at := range height + 1 {
		for _, m := range s.levels[at].makes {
			s.count(all, m.point, at, 1)
		}
		for _, m := range s.levels[at].spends {
			s.count(all, m.point, at-1, -1)
		}
	}
	return all
}

// count adds, or takes off, the version of an outpoint that exists at a height. One that was made and spent by one block exists at none.
func (s *Store) count(all map[string]balance, p api.Outpoint, height, sign int) {
	v, there := s.index.At(p, height)
	if !there {
		return
	}
	script := string(v.Script)
	b := all[script]
	b.value += int64(sign) * v.Value
	b.coins += sign
	all[script] = b
	if b.coins == 0 {
		delete(all, script)
	}
}
