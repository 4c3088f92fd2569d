package journal_test

import (
	"crypto/sha256"
	"encoding/binary"
	"math"
	"slices"
	"testing"

	"parterre/api"
	"parterre/journal"
)

// want: a test fails, if something is another thing than was wanted.
func want[T comparable](t *testing.T, what string, got, wanted T) {
	t.Helper()
	if got != wanted {
		t.Errorf("%s: %v, wanted %v", what, got, wanted)
	}
}

// block is one whose bytes differ, and that differs from those of other numbers.
func block(n byte) api.Block {
	var b api.Block
	for i := range b {
		b[i] = n ^ byte(i*7+i>>8)
	}
	return b
}

func write(at int, n byte) journal.Write {
	return journal.Write{At: at, Block: block(n)}
}

// writes are some of rising sectors, each of another block.
func writes(from, n int) []journal.Write {
	var l []journal.Write
	for i := range n {
		l = append(l, write(from+i, byte(i+1)))
	}
	return l
}

func blocksOf(l []journal.Write) []api.Block {
	var blocks []api.Block
	for _, w := range l {
		blocks = append(blocks, w.Block)
	}
	return blocks
}

// headOf is a head, told by other means than the program's: it may begin with any mark, and have any number of writes.
func headOf(mark string, number uint64, l []journal.Write) api.Block {
	told := []byte(mark)
	told = binary.BigEndian.AppendUint64(told, number)
	told = binary.BigEndian.AppendUint32(told, uint32(len(l)))
	for _, w := range l {
		told = binary.BigEndian.AppendUint16(told, uint16(w.At))
	}
	sum := sha256.New()
	sum.Write(told)
	for _, w := range l {
		sum.Write(w.Block[:])
	}
	var head api.Block
	copy(head[:], sum.Sum(told))
	return head
}

// lists are writes whose heads may be: none, one, the most; sectors of two bytes, that rise or don't.
func lists() [][]journal.Write {
	falling := writes(200, 5)
	slices.Reverse(falling)
	return [][]journal.Write{
		nil,
		{write(97, 1)},
		{write(97, 1), write(98, 1)},
		{write(255, 4), write(256, 3), write(4095, 2), write(65535, 1)},
		falling,
		{write(300, 1), write(300, 2), write(100, 3)},
		writes(97, 95),
		writes(4000, 96),
	}
}

func numbers() []uint64 {
	return []uint64{0, 1, 255, 256, 1 << 32, 0x0102030405060708, math.MaxUint64}
}

// P4.1: a head's bytes, of the writes as they stand.
func TestHead(t *testing.T) {
	for _, l := range lists() {
		for _, number := range numbers() {
			want(t, "head", journal.Head(number, l...), headOf("PRTR", number, l))
		}
	}
}

// P4.1: of more than 96 writes the first 96.
func TestHeadMany(t *testing.T) {
	for _, n := range []int{97, 98, 300} {
		l := writes(100, n)
		want(t, "head", journal.Head(5, l...), headOf("PRTR", 5, l[:96]))
	}
}

// P4.1: sectors modulo 2^16.
func TestHeadModulo(t *testing.T) {
	for _, c := range []struct{ at, modulo int }{
		{65535, 65535}, {65536, 0}, {65536*3 + 258, 258}, {-1, 65535}, {-65536, 0}, {-65535, 1}, {math.MaxInt, 65535}, {math.MinInt, 0}, {math.MinInt + 97, 97},
	} {
		want(t, "head", journal.Head(5, write(c.at, 1)), journal.Head(5, write(c.modulo, 1)))
		number, l, ok := journal.Parse(journal.Head(5, write(c.at, 1)), block(1))
		want(t, "parse", ok && number == 5 && slices.Equal(l, []journal.Write{write(c.modulo, 1)}), true)
	}
}

// P4.1: Parse takes what Head gives, over just so many blocks or more.
func TestParse(t *testing.T) {
	for _, list := range lists() {
		for _, number := range numbers() {
			for _, more := range []int{0, 1, 96 - len(list), 200} {
				blocks := blocksOf(list)
				for i := range more {
					blocks = append(blocks, block(byte(100+i)))
				}
				got, l, ok := journal.Parse(journal.Head(number, list...), blocks...)
				want(t, "parse", ok, true)
				want(t, "number", got, number)
				want(t, "writes", slices.Equal(l, list), true)
			}
		}
	}
}

func wantNoHead(t *testing.T, what string, head api.Block, blocks []api.Block) {
	t.Helper()
	number, l, ok := journal.Parse(head, blocks...)
	if ok || number != 0 || len(l) != 0 {
		t.Errorf("%s: %d, %d writes, %t, wanted 0, none, false", what, number, len(l), ok)
	}
}

// P4.1: with any bit changed, of the head or of its blocks, it is no head over them.
func TestParseChanged(t *testing.T) {
	for _, list := range [][]journal.Write{nil, writes(97, 1), writes(300, 3), writes(1000, 96)} {
		head, blocks := journal.Head(77, list...), blocksOf(list)
		for bit := range 8 * len(head) {
			changed := head
			changed[bit/8] ^= 1 << (bit % 8)
			wantNoHead(t, "a changed head", changed, blocks)
		}
		for i := range blocks {
			blocks[i][(i*37)%512] ^= 1
			wantNoHead(t, "a changed block", head, blocks)
			blocks[i][(i*37)%512] ^= 1
		}
		if len(blocks) > 1 {
			blocks[0], blocks[1] = blocks[1], blocks[0]
			wantNoHead(t, "changed blocks", head, blocks)
		}
	}
}

// P4.1: no head is one of noughts, of another mark, or of more blocks than there are, or 96, though the digest is right.
func TestParseNoHead(t *testing.T) {
	wantNoHead(t, "noughts", api.Block{}, nil)
	wantNoHead(t, "noughts", api.Block{}, blocksOf(writes(97, 96)))
	for _, mark := range []string{"prtr", "PRTS", "QRTR", "\x00\x00\x00\x00", "\x00\x00\x00\x04PRTR", "PRT", ""} {
		wantNoHead(t, "another mark", headOf(mark, 1, writes(97, 2)), blocksOf(writes(97, 2)))
	}
	for _, n := range []int{1, 2, 96} {
		l := writes(97, n)
		wantNoHead(t, "too few blocks", journal.Head(1, l...), blocksOf(l[:n-1]))
		wantNoHead(t, "no blocks", journal.Head(1, l...), nil)
	}
	for _, n := range []int{97, 98, 150} {
		l := writes(97, n)
		wantNoHead(t, "too many blocks", headOf("PRTR", 1, l), blocksOf(l))
	}
	for _, n := range []uint32{1 << 31, math.MaxUint32} {
		head := journal.Head(1, writes(97, 3)...)
		binary.BigEndian.PutUint32(head[12:], n)
		wantNoHead(t, "a count beyond all", head, blocksOf(writes(97, 96)))
	}
}

// P4.1: no head is one behind which something else stands: at the first byte behind it, at the last one.
func TestParseBehind(t *testing.T) {
	for _, n := range []int{0, 1, 96} {
		l := writes(97, n)
		for _, at := range []int{16 + 2*n + 32, 300, 511} {
			head := journal.Head(1, l...)
			head[at] = 1
			wantNoHead(t, "something behind", head, blocksOf(l))
		}
	}
}

// What is handed in stays, and what is answered is new memory.
func TestHeadMemory(t *testing.T) {
	room := writes(200, 5)
	before := slices.Clone(room)
	head := journal.Head(3, room[:2]...)
	blocks := blocksOf(room)
	_, l, _ := journal.Parse(head, blocks[:3]...)
	want(t, "writes stay", slices.Equal(room, before), true)
	want(t, "blocks stay", slices.Equal(blocks, blocksOf(before)), true)
	blocks[0][0]++
	want(t, "new memory", slices.Equal(l, before[:2]), true)
	l[1].Block[0]++
	want(t, "blocks stay", blocks[1], before[1].Block)
}
