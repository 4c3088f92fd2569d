package plane_test

import (
	"slices"
	"testing"

	"parterre/api"
	"parterre/graph"
)

// orders is all orders of darts, the first of which stays.
func orders(l row) []row {
	if len(l) < 3 {
		return []row{l}
	}
	var some []row
	for _, told := range orders(l[:len(l)-1]) {
		for at := 1; at <= len(told); at++ {
			some = append(some, slices.Insert(slices.Clone(told), at, l[len(l)-1]))
		}
	}
	return some
}

// standings goes through all ways in which the ends of a graph's edges can stand round its vertices: see is told which dart is behind each (a dart is twice its edge's place, or one more), till it says that it saw enough.
func standings(g api.Graph, see func(behind []uint32) bool) {
	var at [][]row
	for _, v := range g.Verts {
		var darts row
		for i, x := range g.Edges {
			if x.A == v {
				darts = append(darts, uint32(2*i))
			} else if x.B == v {
				darts = append(darts, uint32(2*i+1))
			}
		}
		at = append(at, orders(darts))
	}
	behind := make(row, 2*len(g.Edges))
	var stand func(place int) bool
	stand = func(place int) bool {
		if place == len(at) {
			return see(behind)
		}
		for _, turn := range at[place] {
			for i, d := range turn {
				behind[d] = turn[(i+1)%len(turn)]
			}
			if stand(place + 1) {
				return true
			}
		}
		return false
	}
	stand(0)
}

// canBeDrawn looks at all ways in which the ends can stand for one with as many faces as there are in the plane.
func canBeDrawn(g api.Graph) bool {
	wanted := 2*len(graph.Parts(g)) - graph.Alone(g) - len(g.Verts) + len(g.Edges)
	found := false
	standings(g, func(behind []uint32) bool {
		faces, seen := 0, make([]bool, len(behind))
		for d := range behind {
			for e := uint32(d); !seen[e]; e = behind[e^1] {
				if e == uint32(d) {
					faces++
				}
				seen[e] = true
			}
		}
		found = faces == wanted
		return found
	})
	return found
}

// wantAsDrawn: there is a map just if one of all ways in which the ends can stand is one.
func wantAsDrawn(t *testing.T, what string, g api.Graph) {
	t.Helper()
	if canBeDrawn(g) {
		wantDrawn(t, what, g)
	} else {
		wantNone(t, what, g)
	}
}

// P14.1: small graphs against all ways in which their ends can stand.
func TestEmbedAllWays(t *testing.T) {
	for set := range 1 << 10 {
		wantAsDrawn(t, "five vertices", subset(all(5), set))
	}
	for set := range 1 << 9 {
		wantAsDrawn(t, "three and three", subset(sides(3, 3), set))
	}
	fat := linked([2]int{1, 2}, [2]int{2, 3}, [2]int{3, 1}, [2]int{2, 1}, [2]int{3, 2}, [2]int{1, 3}, [2]int{3, 4}, [2]int{4, 3}, [2]int{1, 4})
	for set := range 1 << 9 {
		wantAsDrawn(t, "with bundles", subset(fat, set))
	}
	for n := range 7 {
		wantAsDrawn(t, "a bundle", bundle(n))
	}
	for _, g := range []api.Graph{
		thick(sides(3, 3), 5, 1), more(sides(3, 3), [2]int{1, 2}), more(sides(3, 3), [2]int{1, 3}, [2]int{4, 6}), laid(all(5), 7, 1), laid(sides(3, 3), 9, 2),
		more(less(all(5), 4), [2]int{1, 6}, [2]int{6, 7}, [2]int{7, 1}), more(all(5), [2]int{5, 6}), less(sides(3, 4), 1), less(thick(all(5), 2, 1), 9),
	} {
		wantAsDrawn(t, "more", g)
	}
}

// P14.1: all graphs of six vertices without bundles: what can't be drawn has three and three, or five, or five with the sixth on an edge. 32071 can.
func TestEmbedSix(t *testing.T) {
	six := all(6)
	var bad []int
	for a := range 6 {
		for b := range a {
			for c := range 6 {
				if c != a && c != b {
					bad = append(bad, five(c), five(c)&^(1<<pair(a, b))|1<<pair(a, c)|1<<pair(b, c))
				}
			}
			bad = append(bad, three(0, b, a))
		}
	}
	drawn := 0
	for set := range 1 << 15 {
		g := subset(six, set)
		if slices.ContainsFunc(bad, func(part int) bool { return set&part == part }) {
			wantNone(t, "six", g)
		} else {
			wantDrawn(t, "six", g)
			drawn++
		}
	}
	want(t, "so many can", drawn, 32071)
}

// pair is the place in all(6) of the edge between two vertices, told from 0 on.
func pair(a, b int) int {
	return max(a, b)*(max(a, b)-1)/2 + min(a, b)
}

// five is the edges of all(6) between all vertices but one.
func five(but int) int {
	set := 0
	for a := range 6 {
		for b := range a {
			if a != but && b != but {
				set |= 1 << pair(a, b)
			}
		}
	}
	return set
}

// three is the edges of all(6) between these and all others; of fewer than three all of it, as they aren't that.
func three(l ...int) int {
	set := 0
	for a := range 6 {
		for b := range a {
			if slices.Contains(l, a) != slices.Contains(l, b) {
				set |= 1 << pair(a, b)
			}
		}
	}
	if l[0] == l[1] {
		return 1<<15 - 1
	}
	return set
}
