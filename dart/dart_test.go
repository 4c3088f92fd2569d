package dart_test

import (
	"math"
	"testing"

	"parterre/dart"
)

// want: a test fails, if something is another thing than was wanted.
func want[T comparable](t *testing.T, what string, got, wanted T) {
	t.Helper()
	if got != wanted {
		t.Errorf("%s: %v, wanted %v", what, got, wanted)
	}
}

// P8.1: an edge's darts.
func TestOf(t *testing.T) {
	for _, c := range []struct {
		id     uint32
		end    int
		wanted uint32
	}{
		{0, 0, 0}, {0, 1, 1}, {1, 0, 2}, {1, 1, 3}, {5, 0, 10}, {5, 1, 11}, {1 << 20, 0, 1 << 21}, {1 << 20, 1, 1<<21 + 1},
		{1<<31 - 1, 0, 1<<32 - 2}, {1<<31 - 1, 1, 1<<32 - 1}, {1 << 31, 0, 0}, {1 << 31, 1, 1}, {1<<31 + 7, 0, 14}, {1<<31 + 7, 1, 15}, {1<<32 - 1, 0, 1<<32 - 2}, {1<<32 - 1, 1, 1<<32 - 1}, {1<<32 - 2, 0, 1<<32 - 4}, {1<<32 - 2, 1, 1<<32 - 3},
	} {
		want(t, "dart", dart.Of(c.id, c.end), c.wanted)
	}
}

// P8.1: whichever number the end is: the odd ones are B.
func TestOfEnds(t *testing.T) {
	for _, id := range []uint32{0, 5, 1 << 31, math.MaxUint32} {
		for _, c := range []struct {
			end int
			odd uint32
		}{
			{2, 0}, {3, 1}, {-1, 1}, {-2, 0}, {-3, 1}, {1 << 32, 0}, {1<<32 + 1, 1}, {-1 << 32, 0}, {1 - 1<<32, 1}, {math.MaxInt, 1}, {math.MaxInt - 1, 0}, {math.MinInt, 0}, {math.MinInt + 1, 1},
		} {
			want(t, "dart", dart.Of(id, c.end), id*2+c.odd)
		}
	}
}

// P8.1: a dart's edge, and its twin.
func TestEdge(t *testing.T) {
	for _, c := range []struct{ d, edge, twin uint32 }{
		{0, 0, 1}, {1, 0, 0}, {2, 1, 3}, {3, 1, 2}, {10, 5, 11}, {11, 5, 10}, {1<<31 - 1, 1<<30 - 1, 1<<31 - 2}, {1 << 31, 1 << 30, 1<<31 + 1}, {1<<32 - 2, 1<<31 - 1, 1<<32 - 1}, {1<<32 - 1, 1<<31 - 1, 1<<32 - 2},
	} {
		want(t, "edge", dart.Edge(c.d), c.edge)
		want(t, "twin", dart.Twin(c.d), c.twin)
		want(t, "twin's twin", dart.Twin(dart.Twin(c.d)), c.d)
		want(t, "twin's edge", dart.Edge(dart.Twin(c.d)), c.edge)
		want(t, "the edge's dart", dart.Of(c.edge, int(c.d%2)), c.d)
	}
	for i := range uint32(1000) {
		id := i * 2147483 % (1 << 31)
		a, b := dart.Of(id, 0), dart.Of(id, 1)
		want(t, "edges", dart.Edge(a) == id && dart.Edge(b) == id, true)
		want(t, "twins", dart.Twin(a) == b && dart.Twin(b) == a && a != b, true)
	}
}
