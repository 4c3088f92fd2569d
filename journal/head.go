package journal

import (
	"parterre/api"
	"parterre/sha"
	"parterre/wire"
)

const (
	headAt = 0               // its sector
	mark   = "PRTR"          // what a head begins with
	most   = api.Journal - 1 // blocks of a transaction
)

// Head is the head of a transaction of the first 96 of these writes, in the order in which they stand.
func Head(number uint64, l ...Write) api.Block {
	l = l[:min(len(l), most)]
	told, blocks := wire.Out{}.Raw(mark).Eight(number).Four(uint32(len(l))), wire.Out{}
	for _, w := range l {
		told = told.Byte(uint8(w.At >> 8)).Byte(uint8(w.At))
		blocks = blocks.Raw(string(w.Block[:]))
	}
	var head api.Block
	copy(head[:], told.Digest(sha.Sum(told.String(), blocks.String())).String())
	return head
}

// Parse is the number and the writes of a head over such blocks.
func Parse(head api.Block, blocks ...api.Block) (uint64, []Write, bool) {
	in := wire.Of(string(head[:]))
	in.Raw(len(mark))
	number := in.Eight()
	l := make([]Write, in.Count(min(most, len(blocks))))
	for i := range l {
		at := int(in.Byte())<<8 | int(in.Byte())
		l[i] = Write{At: at, Block: blocks[i]}
	}
	// Of these writes there is just one head: so its mark, its digest and the noughts behind are looked at in one.
	if in.Err() != api.OK || head != Head(number, l...) {
		return 0, nil, false
	}
	return number, l, true
}
