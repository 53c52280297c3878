package clauses

import (
	"cmp"
	"slices"

	"polygons/api"
)

// The clauses once more, word by word and by other means, for sets whose
// coordinates are small and whole (multiples of Unit): so what is halved stays
// whole.

func minus(p api.Pt, q api.Pt) api.Pt {
	return api.Pt{X: p.X - q.X, Y: p.Y - q.Y}
}

func times(p api.Pt, q api.Pt) int {
	return p.X*q.Y - p.Y*q.X
}

func dot(p api.Pt, q api.Pt) int {
	return p.X*q.X + p.Y*q.Y
}

// common counts the points that the segments from a to b and from c to d have
// in common (2: more than one), and tells whether a single one is an end. A
// point of the one is a + t(b-a), of the other c + u(d-c): both t and u are
// from 0 to 1.
func common(a api.Pt, b api.Pt, c api.Pt, d api.Pt) (int, bool) {
	way, other, gap := minus(b, a), minus(d, c), minus(c, a)
	if by := times(way, other); by != 0 {
		t, u := times(gap, other), times(gap, way)
		if by < 0 {
			by, t, u = -by, -t, -u
		}
		if t < 0 || t > by || u < 0 || u > by {
			return 0, false
		}
		return 1, t == 0 || t == by || u == 0 || u == by
	}
	if times(way, gap) != 0 {
		return 0, false
	}
	from, to := dot(way, gap), dot(way, minus(d, a))
	low, high := max(0, min(from, to)), min(dot(way, way), max(from, to))
	if low > high {
		return 0, false
	}
	if low == high {
		return 1, true
	}
	return 2, false
}

// on: seen from p the ends lie in opposite directions, or one of them is p.
func on(p api.Pt, a api.Pt, b api.Pt) bool {
	return times(minus(a, p), minus(b, p)) == 0 && dot(minus(a, p), minus(b, p)) <= 0
}

func oracleRing(r []api.Pt) bool {
	n := len(r) - 1
	for i := range n {
		for j := range n {
			if i != j && r[i] == r[j] {
				return false
			}
		}
	}
	for i := range n {
		for j := range n {
			if i == j {
				continue
			}
			count, _ := common(r[i], r[i+1], r[j], r[j+1])
			if follow := (i+1)%n == j || (j+1)%n == i; follow && count != 1 || !follow && count != 0 {
				return false
			}
		}
	}
	return true
}

func oracleMeet(r []api.Pt, s []api.Pt) bool {
	for i := range len(r) - 1 {
		for j := range len(s) - 1 {
			count, end := common(r[i], r[i+1], s[j], s[j+1])
			if count > 1 || count == 1 && !end {
				return false
			}
		}
	}
	return true
}

// oraclePlace: 0 outside, 1 on, 2 within. Its ray is so steep that it meets no
// vertex.
func oraclePlace(r []api.Pt, p api.Pt) int {
	steep := api.Pt{X: 1, Y: 1 << 20}
	count := 0
	for i := range len(r) - 1 {
		if on(p, r[i], r[i+1]) {
			return 1
		}
		way, gap := minus(r[i+1], r[i]), minus(r[i], p)
		if (times(steep, gap) < 0) != (times(steep, minus(r[i+1], p)) < 0) && (times(gap, way) < 0) == (times(steep, way) < 0) {
			count++
		}
	}
	return count % 2 * 2
}

// parts: the middles of the parts of r's segments, cut at vertices of the others.
func parts(r []api.Pt, others [][]api.Pt) []api.Pt {
	var l []api.Pt
	for i := range len(r) - 1 {
		a, b := r[i], r[i+1]
		cuts := []api.Pt{a, b}
		for _, o := range others {
			for _, p := range o {
				if on(p, a, b) {
					cuts = append(cuts, p)
				}
			}
		}
		slices.SortFunc(cuts, func(p, q api.Pt) int {
			return cmp.Compare(dot(minus(p, a), minus(p, a)), dot(minus(q, a), minus(q, a)))
		})
		cuts = slices.Compact(cuts)
		for j := 1; j < len(cuts); j++ {
			l = append(l, api.Pt{X: (cuts[j-1].X + cuts[j].X) / 2, Y: (cuts[j-1].Y + cuts[j].Y) / 2})
		}
	}
	return l
}

func oracleNested(rings [][]api.Pt) bool {
	for i, hole := range rings[1:] {
		for _, m := range parts(hole, rings[:1]) {
			if oraclePlace(rings[0], m) != 2 {
				return false
			}
		}
		for j, other := range rings[1:] {
			for _, m := range parts(hole, [][]api.Pt{other}) {
				if i != j && oraclePlace(other, m) != 0 {
					return false
				}
			}
		}
	}
	return true
}

// oracleRound looks for a way that comes back to the ring it began at.
func oracleRound(rings [][]api.Pt) bool {
	at := map[api.Pt][]int{}
	for _, r := range rings {
		for _, p := range r {
			if at[p] != nil {
				continue
			}
			for i, s := range rings {
				if oraclePlace(s, p) == 1 {
					at[p] = append(at[p], i)
				}
			}
		}
	}
	for i := range rings {
		if goRound(at, i, i, map[int]bool{i: true}, map[api.Pt]bool{}) {
			return true
		}
	}
	return false
}

func goRound(at map[api.Pt][]int, first int, here int, rings map[int]bool, points map[api.Pt]bool) bool {
	for p, on := range at {
		if points[p] || !slices.Contains(on, here) {
			continue
		}
		points[p] = true
		for _, next := range on {
			if next == first && here != first && len(points) > 1 {
				return true
			}
			if !rings[next] {
				rings[next] = true
				if goRound(at, first, next, rings, points) {
					return true
				}
				delete(rings, next)
			}
		}
		delete(points, p)
	}
	return false
}

func oracleApart(p [][]api.Pt, q [][]api.Pt) bool {
	for _, r := range p {
		for _, m := range parts(r, q) {
			within := false
			for _, hole := range q[1:] {
				within = within || oraclePlace(hole, m) == 2
			}
			if oraclePlace(q[0], m) != 0 && !within {
				return false
			}
			for _, s := range q {
				if !oracleMeet(r, s) || oraclePlace(s, m) == 1 {
					return false
				}
			}
		}
	}
	return true
}

// oracle tells of each clause whether it holds.
func oracle(polys [][][]api.Pt) [6]bool {
	holds := [6]bool{true, true, true, true, true, true}
	for i, rings := range polys {
		for j, r := range rings {
			holds[api.Ring] = holds[api.Ring] && oracleRing(r)
			for _, s := range rings[:j] {
				holds[api.Rings] = holds[api.Rings] && oracleMeet(r, s)
			}
		}
		holds[api.Nested] = holds[api.Nested] && oracleNested(rings)
		holds[api.Parted] = holds[api.Parted] && !oracleRound(rings)
		for j := range polys {
			holds[api.Overlap] = holds[api.Overlap] && (i == j || oracleApart(rings, polys[j]))
		}
	}
	return holds
}
