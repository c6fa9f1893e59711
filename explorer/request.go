package explorer

import (
	"slices"

	"purser/api"
	"purser/octet"
)

// Fields of a request, beside its kind. Each stands for a bit, so that several make up a set.
const (
	blockField = 1 << iota
	pointField
	heightField
	kField
	scriptField
	hashField
)

// fields are those that a kind of request has, and whether there is that kind.
func fields(kind int) (set int, is bool) {
	switch kind {
	case api.AskSubmit:
		return blockField, true
	case api.AskCoin, api.AskTrace:
		return pointField | heightField, true
	case api.AskInfo, api.AskAt:
		return heightField, true
	case api.AskBalance:
		return heightField | scriptField, true
	case api.AskRich:
		return heightField | kField, true
	case api.AskBlock, api.AskTx:
		return hashField, true
	case api.AskTip, api.AskCheck:
		return 0, true
	}
	return 0, false
}

// strays says whether a request has a field that is not zero and not of a set.
func strays(r api.Request, set int) bool {
	return set&blockField == 0 && len(r.Block) > 0 ||
		set&pointField == 0 && r.Point != api.Outpoint{} ||
		set&heightField == 0 && r.Height != 0 ||
		set&kField == 0 && r.K != 0 ||
		set&scriptField == 0 && len(r.Script) > 0 ||
		set&hashField == 0 && r.Hash != api.Hash{}
}

// Check says whether a request is valid.
func Check(r api.Request) api.Errno {
	set, is := fields(r.Kind)
	if !is || strays(r, set) || len(r.Script) > api.MaxRaw || len(r.Block) > api.MaxAsk {
		return api.ErrParse
	}
	return api.OK
}

// Encode is a request's bytes.
func Encode(r api.Request) ([]byte, api.Errno) {
	if e := Check(r); e != api.OK {
		return nil, e
	}
	var p octet.Pen
	p.Fixed(1, uint64(r.Kind))
	set, _ := fields(r.Kind)
	has := func(field int) bool { return set&field != 0 }
	if has(blockField) {
		p.Raw(r.Block)
	}
	if has(pointField) {
		p.Raw(r.Point.Tx[:])
		p.Fixed(4, uint64(r.Point.N))
	}
	if has(heightField) {
		p.Fixed(4, uint64(r.Height))
	}
	if has(kField) {
		p.Fixed(4, uint64(r.K))
	}
	if has(scriptField) {
		p.Bytes(r.Script)
	}
	if has(hashField) {
		p.Raw(r.Hash[:])
	}
	return p.All(), api.OK
}

// Decode is the request whose encoding is all of the bytes.
func Decode(b []byte) (api.Request, api.Errno) {
	// What is longer than any request is not looked at any closer.
	if len(b) == 0 || len(b) > 1+api.MaxAsk {
		return api.Request{}, api.ErrParse
	}
	r := api.Request{Kind: int(b[0])}
	set, is := fields(r.Kind)
	if set == blockField {
		r.Block = slices.Clone(b[1:])
		return r, api.OK
	}
	d := reader{eye: octet.Look(b[1:])}
	d.fields(set, &r)
	if !is || d.failed || d.eye.End() != api.OK {
		return api.Request{}, api.ErrParse
	}
	return r, api.OK
}

// reader reads the fields of a request, and remembers whether one of them failed.
type reader struct {
	eye    *octet.Eye
	failed bool
}

// fields reads a set of fields, other than that of a block.
func (d *reader) fields(set int, r *api.Request) {
	if set&pointField != 0 {
		r.Point.Tx = d.hash()
		r.Point.N = d.number()
	}
	if set&heightField != 0 {
		r.Height = d.number()
	}
	if set&kField != 0 {
		r.K = d.number()
	}
	if set&scriptField != 0 {
		script, e := d.eye.Bytes(api.MaxRaw)
		d.note(e)
		r.Script = script
	}
	if set&hashField != 0 {
		r.Hash = d.hash()
	}
}

func (d *reader) hash() (h api.Hash) {
	b, e := d.eye.Raw(len(h))
	d.note(e)
	copy(h[:], b)
	return h
}

func (d *reader) number() uint32 {
	n, e := d.eye.Fixed(4)
	d.note(e)
	return uint32(n)
}

func (d *reader) note(e api.Errno) {
	if e != api.OK {
		d.failed = true
	}
}
