package wire

import "parterre/api"

// In takes things off bytes, till there is an error.
type In struct {
	fault
	left string
}

// fault is the first error that there was.
type fault struct {
	err api.Errno
}

func (f *fault) fail(e api.Errno) {
	if f.err == api.OK {
		f.err = e
	}
}

// Of is an In at the first byte.
func Of(s string) *In {
	return &In{left: s}
}

// Byte takes one.
func (i *In) Byte() uint8 {
	return uint8(i.number(1))
}

// Four takes a number of four bytes.
func (i *In) Four() uint32 {
	return uint32(i.number(4))
}

// Eight takes a number of eight bytes.
func (i *In) Eight() uint64 {
	return i.number(8)
}

// Text takes a text of at most so many bytes.
func (i *In) Text(most int) string {
	return i.Raw(i.count(most, api.ErrLong))
}

// Digest takes one.
func (i *In) Digest() api.Digest {
	var d api.Digest
	copy(d[:], i.Raw(len(d)))
	return d
}

// Count takes how many things there are, at most so many.
func (i *In) Count(most int) int {
	return i.count(most, api.ErrMany)
}

// Raw takes the next n bytes. All that is taken is taken by it, so that nothing is behind an error.
func (i *In) Raw(n int) string {
	if i.Err() != api.OK {
		return ""
	}
	if n < 0 || n > len(i.left) {
		i.fail(api.ErrShort)
		return ""
	}
	s := i.left[:n]
	i.left = i.left[n:]
	return s
}

// Left is how many bytes are left.
func (i *In) Left() int {
	if i == nil {
		return 0
	}
	return len(i.left)
}

// Fail makes e the error, if there is none.
func (i *In) Fail(e api.Errno) {
	if i != nil {
		i.fail(e)
	}
}

// Err is the error.
func (i *In) Err() api.Errno {
	if i == nil {
		return api.ErrNil
	}
	return i.err
}

// End is the error, or that bytes are left.
func (i *In) End() api.Errno {
	if i.Err() == api.OK && i.Left() > 0 {
		return api.ErrForm
	}
	return i.Err()
}

// number takes one of so many bytes; it is 0 where they can't be taken.
func (i *In) number(size int) uint64 {
	n := uint64(0)
	for _, b := range []byte(i.Raw(size)) {
		n = n<<8 | uint64(b)
	}
	return n
}

// count takes a number of four bytes, and fails with e, where it is more than most.
func (i *In) count(most int, e api.Errno) int {
	n := i.number(4)
	if n > uint64(max(most, 0)) {
		i.Fail(e)
		return 0
	}
	return int(n)
}
