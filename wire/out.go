package wire

import (
	"slices"
	"strings"

	"parterre/api"
)

// Out is bytes that were laid. It is a chain of pieces that never change: so the Out that a call is made of stays, and nothing is copied till all bytes are asked for.
type Out struct {
	last *piece
}

// piece is some bytes, and those ahead of them.
type piece struct {
	ahead *piece
	bytes string
}

// Byte lays one byte.
func (o Out) Byte(n uint8) Out {
	return o.Raw(string([]byte{n}))
}

// Four lays numbers of four bytes.
func (o Out) Four(l ...uint32) Out {
	return numbers(o, 4, l)
}

// Eight lays numbers of eight bytes.
func (o Out) Eight(l ...uint64) Out {
	return numbers(o, 8, l)
}

// Text lays texts: of each how many bytes it has, and they.
func (o Out) Text(l ...string) Out {
	for _, s := range l {
		o = o.Four(uint32(len(s))).Raw(s)
	}
	return o
}

// Digest lays digests.
func (o Out) Digest(l ...api.Digest) Out {
	for _, d := range l {
		o = o.Raw(string(d[:]))
	}
	return o
}

// Raw lays the texts' bytes alone.
func (o Out) Raw(l ...string) Out {
	for _, s := range l {
		if s != "" {
			o = Out{&piece{ahead: o.last, bytes: s}}
		}
	}
	return o
}

// String is all bytes that were laid.
func (o Out) String() string {
	var l []string
	for p := o.last; p != nil; p = p.ahead {
		l = append(l, p.bytes)
	}
	slices.Reverse(l)
	return strings.Join(l, "")
}

// numbers lays numbers of so many bytes, the highest first.
func numbers[T uint32 | uint64](o Out, size int, l []T) Out {
	b := make([]byte, 0, size*len(l))
	for _, n := range l {
		for left := size - 1; left >= 0; left-- {
			b = append(b, byte(n>>(8*left)))
		}
	}
	return o.Raw(string(b))
}
