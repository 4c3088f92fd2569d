package dart_test

import (
	"math"
	"slices"
	"testing"

	"parterre/dart"
)

type row = []uint32

const top = math.MaxUint32

func wantRow(t *testing.T, what string, got, wanted row) {
	t.Helper()
	if !slices.Equal(got, wanted) {
		t.Errorf("%s: %v, wanted %v", what, got, wanted)
	}
}

// rows are all rows of up to so many of these darts, those with one dart twice too.
func rows(most int, of ...uint32) []row {
	all, last := []row{nil}, []row{nil}
	for range most {
		var longer []row
		for _, l := range last {
			for _, d := range of {
				longer = append(longer, append(l[:len(l):len(l)], d))
			}
		}
		all, last = append(all, longer...), longer
	}
	return all
}

// some are the rows that most tests go through: small ones, of any darts, the ends among them.
func some() []row {
	return slices.Concat(rows(5, 1, 2, 3), rows(4, 0, 1, 5, top), []row{{7, 2, 5}, {9, 8, 7, 6, 5, 4, 3, 2, 1}, {top, top - 1, 1 << 31, 1<<31 - 1}})
}

// beginning is the turn told from its place at on.
func beginning(l row, at int) row {
	var told row
	for i := range l {
		told = append(told, l[(at+i)%len(l)])
	}
	return told
}

// normal is the row told from its first least dart on, found by other means than the program's.
func normal(l row) row {
	first := 0
	for i, d := range l {
		if d < l[first] {
			first = i
		}
	}
	return beginning(l, first)
}

func unlike(l row) bool {
	seen := map[uint32]int{}
	for _, d := range l {
		seen[d]++
	}
	return len(seen) == len(l)
}

// P8.2: what the example of each call is.
func TestTurns(t *testing.T) {
	wantRow(t, "normal", dart.Normal(7, 2, 5), row{2, 5, 7})
	wantRow(t, "insert", dart.Insert(row{2, 5, 7}, 5, 9), row{2, 5, 9, 7})
	wantRow(t, "without", dart.Without(row{7, 2, 5}, 2), row{5, 7})
	wantRow(t, "mirror", dart.Mirror(row{2, 5, 7, 9}), row{2, 9, 7, 5})
	want(t, "next", dart.Next(row{2, 5, 7}, 7), 2)
	want(t, "prev", dart.Prev(row{2, 5, 7}, 2), 7)
	want(t, "same", dart.Same(row{2, 5, 7}, row{5, 7, 2}), true)
	want(t, "same", dart.Same(row{2, 5, 7}, row{2, 7, 5}), false)
}

// P8.2: a turn told normally.
func TestNormal(t *testing.T) {
	for _, c := range []struct{ l, wanted row }{
		{nil, nil}, {row{}, nil}, {row{0}, row{0}}, {row{top}, row{top}}, {row{5, 4}, row{4, 5}}, {row{4, 5}, row{4, 5}}, {row{top, 0}, row{0, top}}, {row{1 << 31, 1<<31 - 1}, row{1<<31 - 1, 1 << 31}},
		{row{3, 2, 1}, row{1, 3, 2}}, {row{2, 9, 2, 5}, row{2, 9, 2, 5}}, {row{9, 2, 5, 2}, row{2, 5, 2, 9}}, {row{5, 2, 2, 9}, row{2, 2, 9, 5}}, {row{2, 5, 2}, row{2, 5, 2}}, {row{4, 4, 4}, row{4, 4, 4}},
	} {
		wantRow(t, "normal", dart.Normal(c.l...), c.wanted)
	}
	want(t, "of nothing", len(dart.Normal()), 0)
	for _, l := range some() {
		got := dart.Normal(l...)
		wantRow(t, "normal", got, normal(l))
		wantRow(t, "normal again", dart.Normal(got...), got)
	}
}

// P8.2: the one behind, and the one ahead, of the first place.
func TestNext(t *testing.T) {
	for _, c := range []struct {
		l             row
		d, next, prev uint32
	}{
		{nil, 0, 0, 0}, {nil, 5, 0, 0}, {row{}, top, 0, 0}, {row{5}, 5, 5, 5}, {row{5}, 4, 0, 0}, {row{0}, 0, 0, 0}, {row{top}, top, top, top}, {row{top}, 0, 0, 0},
		{row{5, 8}, 5, 8, 8}, {row{5, 8}, 8, 5, 5}, {row{5, 8}, 0, 0, 0}, {row{7, 2, 5}, 7, 2, 5}, {row{7, 2, 5}, 2, 5, 7}, {row{7, 2, 5}, 5, 7, 2}, {row{7, 2, 5}, 6, 0, 0}, {row{7, 2, 5}, 0, 0, 0}, {row{7, 0, 5}, 7, 0, 5}, {row{7, 0, 5}, 0, 5, 7},
		{row{2, 5, 2, 9}, 2, 5, 9}, {row{5, 2, 9, 2}, 2, 9, 5}, {row{9, 5, 5, 2}, 5, 5, 9}, {row{5, 5}, 5, 5, 5}, {row{2, 9, 2}, 2, 9, 2},
	} {
		want(t, "next", dart.Next(c.l, c.d), c.next)
		want(t, "prev", dart.Prev(c.l, c.d), c.prev)
	}
	for _, l := range some() {
		for i, d := range l {
			if slices.Index(l, d) == i {
				told := beginning(l, i)
				want(t, "next", dart.Next(l, d), beginning(told, 1)[0])
				want(t, "prev", dart.Prev(l, d), told[len(told)-1])
			}
			if unlike(l) {
				want(t, "prev's next", dart.Next(l, dart.Prev(l, d)), d)
				want(t, "next's prev", dart.Prev(l, dart.Next(l, d)), d)
			}
		}
		want(t, "of one that isn't there", dart.Next(l, 77)+dart.Prev(l, 77), 0)
	}
}

// inserted is the row with others behind the first place of one, or behind all.
func inserted(l row, behind uint32, more row) row {
	var with row
	done := false
	for _, d := range l {
		with = append(with, d)
		if d == behind && !done {
			with = append(with, more...)
			done = true
		}
	}
	if !done {
		with = append(with, more...)
	}
	return normal(with)
}

// P8.2: others behind one: at the beginning, in the midst, at the end; less than all; none; where it isn't there.
func TestInsert(t *testing.T) {
	for _, c := range []struct {
		l      row
		behind uint32
		more   row
		wanted row
	}{
		{nil, 0, nil, nil}, {nil, 0, row{4}, row{4}}, {nil, 7, row{9, 4, 5}, row{4, 5, 9}}, {row{4}, 4, row{5}, row{4, 5}}, {row{4}, 4, row{3}, row{3, 4}}, {row{4}, 0, row{5}, row{4, 5}}, {row{4}, 9, row{3}, row{3, 4}},
		{row{7, 2, 5}, 7, row{8, 9}, row{2, 5, 7, 8, 9}}, {row{7, 2, 5}, 2, row{8, 9}, row{2, 8, 9, 5, 7}}, {row{7, 2, 5}, 5, row{8, 9}, row{2, 5, 8, 9, 7}}, {row{7, 2, 5}, 5, row{1}, row{1, 7, 2, 5}}, {row{7, 2, 5}, 5, row{3, 0, 9}, row{0, 9, 7, 2, 5, 3}},
		{row{7, 2, 5}, 5, nil, row{2, 5, 7}}, {row{7, 2, 5}, 6, nil, row{2, 5, 7}}, {row{2, 5, 7}, 6, row{9}, row{2, 5, 7, 9}}, {row{7, 2, 5}, 6, row{9}, row{2, 5, 9, 7}}, {row{5, 7, 2}, 6, row{9, 8}, row{2, 9, 8, 5, 7}},
		{row{2, 5, 2}, 2, row{9}, row{2, 9, 5, 2}}, {row{5, 2, 7, 2}, 2, row{9}, row{2, 9, 7, 2, 5}}, {row{2, 5}, 5, row{2}, row{2, 5, 2}}, {row{2, 5}, 5, row{5, 5}, row{2, 5, 5, 5}}, {row{2, 5}, 9, row{9, 7}, row{2, 5, 9, 7}},
		{row{0, top}, top, row{1}, row{0, top, 1}}, {row{0, top}, 0, row{top - 1}, row{0, top - 1, top}}, {row{top}, 0, row{0}, row{0, top}},
	} {
		wantRow(t, "insert", dart.Insert(c.l, c.behind, c.more...), c.wanted)
	}
	for _, l := range some() {
		for _, behind := range []uint32{0, 1, 2, 3, 4, 5, top} {
			for _, more := range []row{nil, {4}, {0}, {2}, {1, 1}, {9, 1, 8}, {top, 6, 7}} {
				wantRow(t, "insert", dart.Insert(l, behind, more...), inserted(l, behind, more))
			}
		}
	}
}

// without is the row less these.
func without(l, less row) row {
	var left row
	for _, d := range l {
		if !slices.Contains(less, d) {
			left = append(left, d)
		}
	}
	return normal(left)
}

// P8.2: some less, wherever and as often as they stand; those that aren't there change nothing.
func TestWithout(t *testing.T) {
	for _, c := range []struct{ l, less, wanted row }{
		{nil, nil, nil}, {nil, row{0}, nil}, {row{0}, row{0}, nil}, {row{5}, row{4}, row{5}}, {row{5}, row{5, 5}, nil}, {row{5, 4}, nil, row{4, 5}}, {row{5, 4}, row{4}, row{5}}, {row{5, 4}, row{5}, row{4}}, {row{5, 4}, row{5, 4}, nil},
		{row{7, 2, 5}, row{2, 9}, row{5, 7}}, {row{7, 2, 5}, row{7}, row{2, 5}}, {row{7, 2, 5}, row{9, 0}, row{2, 5, 7}}, {row{7, 2, 5}, row{7, 5, 2}, nil}, {row{9, 2, 7, 5}, row{2}, row{5, 9, 7}}, {row{2, 5, 2, 9}, row{2}, row{5, 9}}, {row{9, 5, 9, 2}, row{9}, row{2, 5}}, {row{5, 2, 9, 2}, row{9}, row{2, 2, 5}},
		{row{0, top, 1}, row{0}, row{1, top}}, {row{0, top, 1}, row{top}, row{0, 1}},
	} {
		wantRow(t, "without", dart.Without(c.l, c.less...), c.wanted)
	}
	for _, l := range some() {
		for _, less := range rows(2, 0, 1, 3, 4, top) {
			wantRow(t, "without", dart.Without(l, less...), without(l, less))
		}
		wantRow(t, "without nothing", dart.Without(l), normal(l))
		want(t, "without all", len(dart.Without(l, l...)), 0)
	}
}

// P8.2: two rows are one turn just if they are one row, told normally.
func TestSame(t *testing.T) {
	for _, c := range []struct {
		a, b   row
		wanted bool
	}{
		{nil, nil, true}, {nil, row{}, true}, {nil, row{0}, false}, {row{5}, row{5}, true}, {row{5}, row{4}, false}, {row{5, 4}, row{4, 5}, true}, {row{5}, row{5, 5}, false}, {row{1, 2, 3}, row{3, 1, 2}, true}, {row{1, 2, 3}, row{1, 3, 2}, false}, {row{1, 2, 3, 4}, row{3, 4, 1, 2}, true}, {row{1, 2, 3}, row{1, 2, 3, 4}, false},
		{row{2, 2, 5}, row{2, 2, 5}, true}, {row{2, 2, 5}, row{5, 2, 2}, true}, {row{2, 2, 5}, row{2, 5, 2}, false}, {row{2, 5, 2, 9}, row{2, 9, 2, 5}, false}, {row{0, top}, row{top, 0}, true},
	} {
		want(t, "same", dart.Same(c.a, c.b), c.wanted)
		want(t, "same the other way", dart.Same(c.b, c.a), c.wanted)
	}
	all := rows(4, 1, 2, 3)
	for _, a := range all {
		for _, b := range all {
			want(t, "same", dart.Same(a, b), slices.Equal(normal(a), normal(b)))
		}
	}
}

// P8.2: the other way round.
func TestMirror(t *testing.T) {
	for _, c := range []struct{ l, wanted row }{
		{nil, nil}, {row{}, nil}, {row{0}, row{0}}, {row{5, 4}, row{4, 5}}, {row{7, 2, 5}, row{2, 7, 5}}, {row{1, 2, 3, 4}, row{1, 4, 3, 2}}, {row{top, 0, 1}, row{0, top, 1}},
		{row{2, 5, 2, 9}, row{2, 5, 2, 9}}, {row{2, 2, 5}, row{2, 2, 5}}, {row{2, 5, 2}, row{2, 5, 2}}, {row{2, 3, 2, 5, 9}, row{2, 3, 2, 9, 5}},
	} {
		wantRow(t, "mirror", dart.Mirror(c.l), c.wanted)
	}
	for _, l := range some() {
		back := row{}
		for i := range l {
			back = append(back, l[len(l)-1-i])
		}
		wantRow(t, "mirror", dart.Mirror(l), normal(back))
		if unlike(l) {
			wantRow(t, "mirrored again", dart.Mirror(dart.Mirror(l)), normal(l))
			for _, d := range l {
				want(t, "next is prev", dart.Next(dart.Mirror(l), d), dart.Prev(l, d))
			}
		}
	}
}

// P8.3: of unlike darts, wherever the turn begins.
func TestBeginnings(t *testing.T) {
	for _, l := range slices.Concat(rows(5, 1, 2, 3, 6, 9), rows(4, 0, 5, 1<<31, top), []row{{12, 3, 44, 1, 90, 7, 8, 60}}) {
		if !unlike(l) {
			continue
		}
		for at := range l {
			told := beginning(l, at)
			wantRow(t, "normal", dart.Normal(told...), dart.Normal(l...))
			wantRow(t, "mirror", dart.Mirror(told), dart.Mirror(l))
			want(t, "same", dart.Same(told, l), true)
			for _, d := range l {
				for _, more := range []row{nil, {4, 20}, {8, 0, 7}, {top - 1, 10}} {
					if unlike(slices.Concat(l, more)) {
						wantRow(t, "insert", dart.Insert(told, d, more...), dart.Insert(l, d, more...))
					}
				}
				wantRow(t, "without", dart.Without(told, d, l[0]), dart.Without(l, d, l[0]))
				want(t, "next", dart.Next(told, d), dart.Next(l, d))
				want(t, "prev", dart.Prev(told, d), dart.Prev(l, d))
			}
		}
	}
}

// A turn of many darts.
func TestLong(t *testing.T) {
	var l row
	for i := range uint32(1 << 17) {
		l = append(l, i*2654435761)
	}
	at := slices.Index(l, slices.Min(l))
	wantRow(t, "normal", dart.Normal(l...), beginning(l, at))
	want(t, "without all", len(dart.Without(l, l...)), 0)
	want(t, "without but one", len(dart.Without(l, l[1:]...)), 1)
	want(t, "mirrored again", slices.Equal(dart.Mirror(dart.Mirror(l)), dart.Normal(l...)), true)
	want(t, "insert", len(dart.Insert(l, l[500], l...)), 1<<18)
}

// What is handed in isn't changed, spare room included, and what is answered is new memory.
func TestMemory(t *testing.T) {
	for n := range 7 {
		room, more := row{6, 2, 9, 1, 8, 3, 7, 7}, row{5, 4, 2, 9, 9}
		turn, l := room[:n], more[:2]
		all := []row{dart.Normal(turn...), dart.Insert(turn, 2, l...), dart.Insert(turn, 77, l...), dart.Insert(turn, 2), dart.Insert(nil, 2, turn...), dart.Without(turn, more[:3]...), dart.Without(turn), dart.Mirror(turn)}
		dart.Same(turn, l)
		dart.Next(turn, 2)
		dart.Prev(turn, 2)
		for _, got := range all {
			for i := range got {
				got[i] = 99
			}
			clear(got[len(got):cap(got)])
		}
		wantRow(t, "the turn", room, row{6, 2, 9, 1, 8, 3, 7, 7})
		wantRow(t, "the others", more, row{5, 4, 2, 9, 9})
	}
	turn := row{1, 2, 3}
	wantRow(t, "a turn into itself", dart.Insert(turn, 2, turn...), row{1, 2, 1, 2, 3, 3})
	wantRow(t, "it stays", turn, row{1, 2, 3})
}
