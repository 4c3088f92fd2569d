package space_test

import (
	"math"
	"slices"
	"testing"

	"parterre/api"
	"parterre/space"
)

// want: a test fails, if something is another thing than was wanted.
func want[T comparable](t *testing.T, what string, got, wanted T) {
	t.Helper()
	if got != wanted {
		t.Errorf("%s: %v, wanted %v", what, got, wanted)
	}
}

func run(at, n int) space.Run {
	return space.Run{At: at, Len: n}
}

// wantRuns: a space has just these runs; it is asked for them, for how many they come to, and sector by sector.
func wantRuns(t *testing.T, s *space.Space, wanted ...space.Run) {
	t.Helper()
	if got := slices.Collect(s.Runs()); !slices.Equal(got, wanted) {
		t.Errorf("runs: %v, wanted %v", got, wanted)
		return
	}
	free := 0
	for _, r := range wanted {
		free += r.Len
		for i := range r.Len {
			want(t, "is one of a run", s.Is(r.At+i), true)
		}
		want(t, "is the one ahead", r.At > math.MinInt && s.Is(r.At-1), false)
		want(t, "is the one behind", s.Is(r.At+r.Len), false)
	}
	want(t, "free", s.Free(), free)
}

func wantTake(t *testing.T, s *space.Space, n, at int, wanted api.Errno) {
	t.Helper()
	got, e := s.Take(n)
	if got != at || e != wanted {
		t.Errorf("take of %d: %d, %v, wanted %d, %v", n, got, e, at, wanted)
	}
}

// P5.1: the sectors from one up to another one, all free.
func TestNew(t *testing.T) {
	for _, c := range []struct{ from, to int }{
		{0, 1}, {5, 9}, {10, 20}, {121, 4096}, {-1, 1}, {-9, -5}, {0, 4095}, {0, 4096}, {1, 4097}, {-2048, 2048},
		{math.MaxInt - 1, math.MaxInt}, {math.MaxInt - 4096, math.MaxInt}, {math.MinInt, math.MinInt + 1}, {math.MinInt, math.MinInt + 4096},
	} {
		wantRuns(t, space.New(c.from, c.to), run(c.from, c.to-c.from))
	}
}

// P5.1: none, where to isn't above from.
func TestNewNone(t *testing.T) {
	for _, c := range []struct{ from, to int }{
		{0, 0}, {5, 5}, {9, 5}, {0, -1}, {-5, -9}, {1, -1}, {math.MaxInt, math.MaxInt}, {math.MaxInt, 0}, {math.MaxInt, math.MinInt},
		{math.MinInt, math.MinInt}, {0, math.MinInt}, {math.MinInt + 1, math.MinInt},
	} {
		s := space.New(c.from, c.to)
		wantRuns(t, s)
		for _, at := range []int{c.from, c.to, 0, -1, math.MaxInt, math.MinInt} {
			want(t, "is", s.Is(at), false)
			want(t, "claim", s.Claim(run(at, 1)), api.ErrArg)
			want(t, "give", s.Give(run(at, 1)), api.ErrArg)
		}
		wantTake(t, s, 1, 0, api.ErrSpace)
		wantTake(t, s, 0, 0, api.ErrArg)
	}
}

// P5.1: at most 4096 of them, the first ones, from any number to any other.
func TestNewMost(t *testing.T) {
	for _, c := range []struct{ from, to int }{
		{0, 4096}, {0, 4097}, {5, 4102}, {0, 1 << 20}, {-3000, 3000}, {0, math.MaxInt}, {math.MinInt, 0}, {math.MinInt, math.MaxInt}, {-1, math.MaxInt}, {math.MaxInt - 4097, math.MaxInt},
	} {
		s := space.New(c.from, c.to)
		wantRuns(t, s, run(c.from, 4096))
		want(t, "claim of one more", s.Claim(run(c.from, 4097)), api.ErrArg)
		wantTake(t, s, 4097, 0, api.ErrSpace)
		wantTake(t, s, 4096, c.from, api.OK)
		wantRuns(t, s)
	}
}

// P5.1: one is of a space, free, or not.
func TestIs(t *testing.T) {
	s := space.New(10, 20)
	for _, at := range []int{9, 20, 0, -1, 4096, -10, math.MaxInt, math.MinInt} {
		want(t, "outside", s.Is(at), false)
	}
	for at := 10; at < 20; at++ {
		want(t, "free", s.Is(at), true)
		want(t, "claim", s.Claim(run(at, 1)), api.OK)
		want(t, "taken", s.Is(at), false)
		want(t, "how many", s.Free(), 19-at)
	}
	low := space.New(math.MinInt, math.MinInt+3)
	want(t, "far behind", low.Is(math.MaxInt), false)
	want(t, "far behind", low.Is(0), false)
	high := space.New(math.MaxInt-3, math.MaxInt)
	want(t, "far ahead", high.Is(math.MinInt), false)
	want(t, "right behind", high.Is(math.MaxInt), false)
}

// P5.1: the longest runs, rising, wherever the taken ones are.
func TestRuns(t *testing.T) {
	s := space.New(5, 9)
	wantRuns(t, s, run(5, 4))
	s.Claim(run(6, 1))
	wantRuns(t, s, run(5, 1), run(7, 2))
	s.Claim(run(8, 1))
	wantRuns(t, s, run(5, 1), run(7, 1))
	s.Claim(run(5, 1))
	wantRuns(t, s, run(7, 1))
	s.Claim(run(7, 1))
	wantRuns(t, s)
	s.Give(run(5, 2))
	wantRuns(t, s, run(5, 2))
	s.Give(run(8, 1))
	wantRuns(t, s, run(5, 2), run(8, 1))
	s.Give(run(7, 1))
	wantRuns(t, s, run(5, 4))
}

// P5.1: the most runs.
func TestRunsMany(t *testing.T) {
	s := space.New(100, 100+4096)
	var wanted []space.Run
	for i := range 2048 {
		s.Claim(run(100+2*i, 1))
		wanted = append(wanted, run(101+2*i, 1))
	}
	wantRuns(t, s, wanted...)
	wantTake(t, s, 2, 0, api.ErrSpace)
	wantTake(t, s, 1, 101, api.OK)
	wantRuns(t, s, wanted[1:]...)
}

// P5.1: a row may be gone through again and again, and left anywhere; it goes through what is there then.
func TestRunsAgain(t *testing.T) {
	s := space.New(0, 9)
	row := s.Runs()
	s.Claim(run(2, 1), run(6, 1))
	for stop := range 4 {
		var got []space.Run
		for r := range row {
			got = append(got, r)
			if len(got) > stop {
				break
			}
		}
		wanted := []space.Run{run(0, 2), run(3, 3), run(7, 2)}[:min(stop+1, 3)]
		want(t, "as far as it was gone", slices.Equal(got, wanted), true)
	}
	s.Give(run(2, 1))
	want(t, "behind a change", slices.Equal(slices.Collect(row), []space.Run{run(0, 6), run(7, 2)}), true)
	for range row {
		n := 0
		for range row {
			n++
		}
		want(t, "one row in another", n, 2)
	}
}

// P5.1: what is gone through isn't changed on the way.
func TestRunsStay(t *testing.T) {
	s := space.New(0, 9)
	s.Claim(run(2, 1), run(6, 1))
	var got []space.Run
	for r := range s.Runs() {
		got = append(got, r)
		if len(got) == 1 {
			want(t, "claim", s.Claim(run(3, 2), run(8, 1)), api.OK)
			want(t, "give", s.Give(run(2, 1)), api.OK)
		}
	}
	want(t, "as they were begun", slices.Equal(got, []space.Run{run(0, 2), run(3, 3), run(7, 2)}), true)
	wantRuns(t, s, run(0, 3), run(5, 1), run(7, 1))
}

// P5.2: the first of the first run that has n or more.
func TestTake(t *testing.T) {
	s := space.New(5, 9)
	wantTake(t, s, 3, 5, api.OK)
	wantRuns(t, s, run(8, 1))
	wantTake(t, s, 2, 0, api.ErrSpace)
	wantTake(t, s, 1, 8, api.OK)
	wantTake(t, s, 1, 0, api.ErrSpace)
	s = space.New(0, 20)
	s.Claim(run(2, 1), run(6, 1), run(12, 1)) // leaves runs of 2, 3, 5 and 7
	for _, c := range []struct{ n, at int }{{1, 0}, {2, 0}, {3, 3}, {4, 7}, {5, 7}, {6, 13}, {7, 13}} {
		wantTake(t, s.Copy(), c.n, c.at, api.OK)
	}
	wantTake(t, s, 8, 0, api.ErrSpace)
	wantTake(t, s, 17, 0, api.ErrSpace)
	wantTake(t, s, 4, 7, api.OK)
	wantRuns(t, s, run(0, 2), run(3, 3), run(11, 1), run(13, 7))
	wantTake(t, s, 1, 0, api.OK)
	wantTake(t, s, 1, 1, api.OK)
	wantTake(t, s, 1, 3, api.OK)
}

// P5.2: fewer than one is ErrArg, more than any run has is ErrSpace, and nothing is changed.
func TestTakeRefused(t *testing.T) {
	s := space.New(-2, 8)
	s.Claim(run(3, 1))
	for _, n := range []int{0, -1, -4096, math.MinInt} {
		wantTake(t, s, n, 0, api.ErrArg)
	}
	for _, n := range []int{6, 9, 10, 4096, 4097, math.MaxInt} {
		wantTake(t, s, n, 0, api.ErrSpace)
	}
	wantRuns(t, s, run(-2, 5), run(4, 4))
	wantTake(t, s, 5, -2, api.OK)
}

// P5.2: runs that are claimed, and given, several at once, in any order.
func TestClaimGive(t *testing.T) {
	s := space.New(10, 20)
	want(t, "claim of nothing", s.Claim(), api.OK)
	want(t, "give of nothing", s.Give(), api.OK)
	want(t, "claim", s.Claim(run(18, 2), run(10, 1), run(12, 3), run(15, 1)), api.OK)
	wantRuns(t, s, run(11, 1), run(16, 2))
	want(t, "give", s.Give(run(19, 1), run(13, 2), run(10, 1)), api.OK)
	wantRuns(t, s, run(10, 2), run(13, 2), run(16, 2), run(19, 1))
	want(t, "give", s.Give(run(18, 1), run(12, 1), run(15, 1)), api.OK)
	wantRuns(t, s, run(10, 10))
	want(t, "claim of all", s.Claim(run(10, 10)), api.OK)
	wantRuns(t, s)
	want(t, "give of all", s.Give(run(10, 10)), api.OK)
	wantRuns(t, s, run(10, 10))
}

// wrong are runs of which some sector is none of 10 up to 20, or that have none.
func wrong() []space.Run {
	return []space.Run{
		run(10, 0), run(10, -1), run(25, 0), run(10, math.MinInt), run(9, 1), run(20, 1), run(9, 2), run(19, 2), run(10, 11), run(0, 30), run(-1, 1),
		run(10, math.MaxInt), run(19, math.MaxInt), run(9, math.MaxInt), run(math.MaxInt, 1), run(math.MaxInt, math.MaxInt), run(math.MinInt, 1), run(math.MinInt, math.MaxInt), {},
	}
}

// P5.2: a run of none, or not of the space, is ErrArg; ahead of it and behind it others change nothing.
func TestClaimGiveArg(t *testing.T) {
	for _, r := range wrong() {
		free, taken := space.New(10, 20), space.New(10, 20)
		taken.Claim(run(10, 10))
		for _, l := range [][]space.Run{{r}, {r, run(15, 1)}, {r, r}, {r, run(15, 1), run(15, 1)}} {
			want(t, "claim", free.Claim(l...), api.ErrArg)
			want(t, "give", taken.Give(l...), api.ErrArg)
		}
		if r.At != 10 && r.At != 19 { // else they have a sector of it
			want(t, "claim behind others", free.Claim(run(10, 1), run(19, 1), r), api.ErrArg)
			want(t, "give behind others", taken.Give(run(10, 1), run(19, 1), r), api.ErrArg)
		}
		wantRuns(t, free, run(10, 10))
		wantRuns(t, taken)
	}
}

// P5.2: what isn't free can't be claimed, what is can't be given, nor stand in two runs: ErrThere, and nothing is changed.
func TestClaimGiveThere(t *testing.T) {
	for _, l := range [][]space.Run{
		{run(13, 1)}, {run(13, 2)}, {run(12, 2)}, {run(10, 10)}, {run(14, 2)}, {run(15, 5), run(13, 1)}, {run(13, 1), run(15, 5)},
		{run(16, 1), run(16, 1)}, {run(16, 3), run(18, 2)}, {run(18, 2), run(16, 3)}, {run(15, 5), run(17, 1)}, {run(17, 1), run(15, 5)}, {run(10, 1), run(16, 1), run(10, 1)},
	} {
		s := space.New(10, 20)
		s.Claim(run(13, 2))
		want(t, "claim", s.Claim(l...), api.ErrThere)
		wantRuns(t, s, run(10, 3), run(15, 5))
		s = space.New(10, 20)
		s.Claim(run(10, 3), run(15, 5))
		want(t, "give", s.Give(l...), api.ErrThere)
		wantRuns(t, s, run(13, 2))
	}
}

// P5.2: the first error, run by run, sector by sector.
func TestClaimGiveOrder(t *testing.T) {
	for _, c := range []struct {
		l      []space.Run
		wanted api.Errno
	}{
		{[]space.Run{run(13, 10)}, api.ErrThere},
		{[]space.Run{run(12, 100)}, api.ErrThere},
		{[]space.Run{run(14, 10)}, api.ErrArg},
		{[]space.Run{run(9, 5)}, api.ErrArg},
		{[]space.Run{run(13, 0)}, api.ErrArg},
		{[]space.Run{run(13, 1), run(20, 1)}, api.ErrThere},
		{[]space.Run{run(20, 1), run(13, 1)}, api.ErrArg},
		{[]space.Run{run(13, -1), run(13, 1)}, api.ErrArg},
		{[]space.Run{run(13, 1), run(14, 0)}, api.ErrThere},
		{[]space.Run{run(19, 1), run(18, 3)}, api.ErrThere},
		{[]space.Run{run(18, 3), run(19, 1)}, api.ErrArg},
		{[]space.Run{run(15, 1), run(15, 0)}, api.ErrArg},
		{[]space.Run{run(15, 1), run(15, 1), run(15, 0)}, api.ErrThere},
		{[]space.Run{run(11, math.MaxInt)}, api.ErrThere},
	} {
		s := space.New(10, 20)
		s.Claim(run(13, 1))
		want(t, "claim", s.Claim(c.l...), c.wanted)
		wantRuns(t, s, run(10, 3), run(14, 6))
		s = space.New(10, 20)
		s.Claim(run(10, 3), run(14, 6))
		want(t, "give", s.Give(c.l...), c.wanted)
		wantRuns(t, s, run(13, 1))
	}
}

// P5.2: a copy is a space of its own.
func TestCopy(t *testing.T) {
	s := space.New(10, 20)
	s.Claim(run(12, 3))
	c := s.Copy()
	wantRuns(t, c, run(10, 2), run(15, 5))
	wantTake(t, s, 2, 10, api.OK)
	want(t, "give to it", c.Give(run(12, 1)), api.OK)
	wantRuns(t, s, run(15, 5))
	wantRuns(t, c, run(10, 3), run(15, 5))
	again := c.Copy()
	want(t, "claim of the copy's copy", again.Claim(run(10, 3)), api.OK)
	wantRuns(t, c, run(10, 3), run(15, 5))
	wantRuns(t, again, run(15, 5))
	want(t, "not of it", again.Claim(run(20, 1)), api.ErrArg)
	wantRuns(t, space.New(5, 5).Copy())
}

// P5.1, P5.2: of a nil space ErrNil, zero, no runs, nil.
func TestNil(t *testing.T) {
	var s *space.Space
	for _, n := range []int{0, 1, -1} {
		wantTake(t, s, n, 0, api.ErrNil)
		want(t, "claim", s.Claim(run(n, n)), api.ErrNil)
		want(t, "give", s.Give(run(n, n)), api.ErrNil)
		want(t, "is", s.Is(n), false)
	}
	want(t, "claim of nothing", s.Claim(), api.ErrNil)
	want(t, "give of nothing", s.Give(), api.ErrNil)
	want(t, "free", s.Free(), 0)
	want(t, "copy", s.Copy(), nil)
	for range s.Runs() {
		t.Error("a nil space has a run")
	}
}

// What is handed in is neither changed, nor kept.
func TestMemory(t *testing.T) {
	s := space.New(10, 20)
	room := []space.Run{run(15, 2), run(11, 1), run(18, 1), run(10, 1)}
	before := slices.Clone(room)
	want(t, "claim", s.Claim(room[:2]...), api.OK)
	want(t, "runs stay", slices.Equal(room, before), true)
	room[0] = run(18, 1)
	wantRuns(t, s, run(10, 1), run(12, 3), run(17, 3))
	copy(room, before)
	want(t, "give", s.Give(room[:2]...), api.OK)
	want(t, "runs stay", slices.Equal(room, before), true)
	want(t, "give again", s.Give(room[:2]...), api.ErrThere)
	want(t, "runs stay", slices.Equal(room, before), true)
}
