package space_test

import (
	"slices"
	"testing"

	"parterre/api"
	"parterre/space"
)

// model is a space of few sectors, told by other means than the program's: each bit is whether one is free.
type model struct {
	from, size int
	free       uint16
}

func (m model) is(at int) bool {
	return at >= m.from && at < m.from+m.size && m.free>>(at-m.from)&1 == 1
}

func (m model) runs() []space.Run {
	var l []space.Run
	for at := m.from; at < m.from+m.size; at++ {
		if m.is(at) && m.is(at-1) {
			l[len(l)-1].Len++
		} else if m.is(at) {
			l = append(l, run(at, 1))
		}
	}
	return l
}

func (m *model) take(n int) (int, api.Errno) {
	if n < 1 {
		return 0, api.ErrArg
	}
	for _, r := range m.runs() {
		if r.Len >= n {
			for i := range n {
				m.free ^= 1 << (r.At + i - m.from)
			}
			return r.At, api.OK
		}
	}
	return 0, api.ErrSpace
}

// turn goes sector by sector, and is done only if there was no error.
func (m *model) turn(l []space.Run, claim bool) api.Errno {
	after := *m
	for _, r := range l {
		if r.Len < 1 {
			return api.ErrArg
		}
		for at := r.At; at < r.At+r.Len; at++ {
			if at < m.from || at >= m.from+m.size {
				return api.ErrArg
			}
			if after.is(at) != claim {
				return api.ErrThere
			}
			after.free ^= 1 << (at - m.from)
		}
	}
	*m = after
	return api.OK
}

// of is the space that a model is of.
func of(t *testing.T, m model) *space.Space {
	t.Helper()
	s := space.New(m.from, m.from+m.size)
	for i := range m.size {
		if !m.is(m.from + i) {
			want(t, "claim", s.Claim(run(m.from+i, 1)), api.OK)
		}
	}
	return s
}

// wantModel: a space is as its model is, to one sector beyond either end.
func wantModel(t *testing.T, s *space.Space, m model) {
	t.Helper()
	wantRuns(t, s, m.runs()...)
	for at := m.from - 1; at <= m.from+m.size; at++ {
		want(t, "is", s.Is(at), m.is(at))
	}
}

// models are all spaces of up to so many sectors, whichever are free.
func models(most int) []model {
	var l []model
	for size := range most + 1 {
		for free := range uint16(1) << size {
			l = append(l, model{from: 3 - size, size: size, free: free})
		}
	}
	return l
}

// P5.1, P5.2: each space of up to seven sectors, and each take.
func TestEachTake(t *testing.T) {
	for _, m := range models(7) {
		s := of(t, m)
		wantModel(t, s, m)
		for n := -1; n <= m.size+1; n++ {
			c, after := s.Copy(), m
			at, e := after.take(n)
			wantTake(t, c, n, at, e)
			wantModel(t, c, after)
			if e == api.OK { // P5.3
				want(t, "given again", c.Give(run(at, n)), api.OK)
				wantModel(t, c, m)
			}
		}
		wantModel(t, s, m)
	}
}

// P5.2, P5.3: each space of up to four sectors, and each two runs that are claimed or given.
func TestEachTwoRuns(t *testing.T) {
	for _, m := range models(4) {
		var all []space.Run
		for at := m.from - 1; at <= m.from+m.size; at++ {
			for n := -1; n <= m.size+2; n++ {
				all = append(all, run(at, n))
			}
		}
		s := of(t, m)
		for _, a := range all {
			for _, b := range all {
				for _, l := range [][]space.Run{{a}, {a, b}} {
					wantTurn(t, s, m, l, true)
					wantTurn(t, s, m, l, false)
				}
			}
		}
	}
}

// wantTurn: runs that are claimed or given come to what the model says; taken back (P5.3) all is as it was.
func wantTurn(t *testing.T, s *space.Space, m model, l []space.Run, claim bool) {
	t.Helper()
	c, after := s.Copy(), m
	there, back := c.Give, c.Claim
	if claim {
		there, back = c.Claim, c.Give
	}
	wanted := after.turn(l, claim)
	want(t, "claim or give", there(l...), wanted)
	want(t, "runs", slices.Equal(slices.Collect(c.Runs()), after.runs()), true)
	if wanted == api.OK {
		want(t, "and back", back(l...), api.OK)
		want(t, "runs behind both", slices.Equal(slices.Collect(c.Runs()), m.runs()), true)
	}
}

// P5.3: a long row of runs that are taken and claimed; given in another order all is as it was.
func TestTakenGiven(t *testing.T) {
	s := space.New(121, 4096)
	s.Claim(run(200, 9), run(4000, 50))
	wanted := slices.Collect(s.Runs())
	seed := uint64(1)
	chance := func(n uint64) int {
		seed = seed*6364136223846793005 + 1442695040888963407
		return int(seed >> 33 % n)
	}
	var taken []space.Run
	for range 3000 {
		n := 1 + chance(64)
		at, e := 0, api.OK
		if chance(2) == 0 {
			at, e = s.Take(n)
		} else {
			at = 121 + chance(4096)
			e = s.Claim(run(at, n))
		}
		if e == api.OK {
			taken = append(taken, run(at, n))
		}
		if i := chance(40); i < len(taken) && chance(2) == 0 {
			want(t, "give", s.Give(taken[i]), api.OK)
			taken = slices.Delete(taken, i, i+1)
		}
	}
	want(t, "some were taken", len(taken) > 20, true)
	slices.Reverse(taken)
	want(t, "give", s.Give(taken...), api.OK)
	wantRuns(t, s, wanted...)
}
