package dart

import "slices"

// Normal is the turn from its first least dart on.
func Normal(l ...uint32) []uint32 {
	if len(l) == 0 {
		return nil
	}
	first := slices.Index(l, slices.Min(l))
	return slices.Concat(l[first:], l[:first])
}

// Next is the dart behind d's first place; 0, where d isn't there.
func Next(turn []uint32, d uint32) uint32 {
	return from(turn, d, 1)
}

// Prev is the dart ahead of d's first place; 0, where d isn't there.
func Prev(turn []uint32, d uint32) uint32 {
	return from(turn, d, len(turn)-1)
}

// from is the dart so many places behind d's first place.
func from(turn []uint32, d uint32, places int) uint32 {
	at := slices.Index(turn, d)
	if at < 0 {
		return 0
	}
	return turn[(at+places)%len(turn)]
}

// Insert is the turn with all of l right behind that dart's first place; where it isn't there, behind the last one.
func Insert(turn []uint32, behind uint32, l ...uint32) []uint32 {
	at := slices.Index(turn, behind) + 1
	if at == 0 {
		at = len(turn)
	}
	return Normal(slices.Concat(turn[:at], l, turn[at:])...)
}

// Without is the turn without these.
func Without(turn []uint32, l ...uint32) []uint32 {
	gone := map[uint32]struct{}{}
	for _, d := range l {
		gone[d] = struct{}{}
	}
	rest := slices.DeleteFunc(slices.Clone(turn), func(d uint32) bool {
		_, is := gone[d]
		return is
	})
	return Normal(rest...)
}

// Same tells whether two rows are the same turn.
func Same(a, b []uint32) bool {
	return slices.Equal(Normal(a...), Normal(b...))
}

// Mirror is the turn the other way round.
func Mirror(turn []uint32) []uint32 {
	back := slices.Clone(turn)
	slices.Reverse(back)
	return Normal(back...)
}
