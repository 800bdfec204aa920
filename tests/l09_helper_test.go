package tests

import (
	"slices"
	"testing"

	"loop.example/g00918/impl"
)

// What follows states chapter 9 in another way, without the program's functions.

func match(i, j int64) impl.Pair { return impl.Pair{I: i, J: j} }

// pairs returns a list of pairs: I and J of each, in turn.
func pairs(numbers ...int64) []impl.Pair {
	var list []impl.Pair
	for at := 0; at < len(numbers); at += 2 {
		list = append(list, match(numbers[at], numbers[at+1]))
	}
	return list
}

// line returns features that differ in X only, so that costs are differences of the numbers.
func line(xs ...int64) []impl.Feat {
	var list []impl.Feat
	for _, x := range xs {
		list = append(list, feat(x, 0, 0))
	}
	return list
}

// gap counts the steps from one number to another one.
func gap(n, m int64) int64 {
	steps := int64(0)
	for low := min(n, m); low < max(n, m); low++ {
		steps++
	}
	return steps
}

// stepsAround counts the steps from one direction to another one, in both directions at once.
func stepsAround(d, e int64) int64 {
	steps := int64(0)
	for (d+steps)%8 != e && (e+steps)%8 != d {
		steps++
	}
	return steps
}

func costBetween(a, b impl.Feat) int64 {
	return gap(a.X, b.X) + gap(a.Y, b.Y) + 16*stepsAround(a.D, b.D)
}

func isNear(p impl.Pair, band int64) bool { return gap(p.I, p.J) <= band }

// pathsFor returns all paths for n and m elements within a band, found one after another.
func pathsFor(n, m, band int64) [][]impl.Pair {
	var found [][]impl.Pair
	var walk func(path []impl.Pair)
	walk = func(path []impl.Pair) {
		p := path[len(path)-1]
		if p.I >= n || p.J >= m || !isNear(p, band) {
			return
		}
		if p == match(n-1, m-1) {
			found = append(found, path)
			return
		}
		for _, q := range pairs(p.I+1, p.J, p.I, p.J+1, p.I+1, p.J+1) {
			walk(append(slices.Clone(path), q))
		}
	}
	walk(pairs(0, 0))
	return found
}

func costAlong(a, b []impl.Feat, path []impl.Pair) int64 {
	cost := int64(0)
	for _, p := range path {
		cost += costBetween(a[p.I], b[p.J])
	}
	return cost
}

// isPreferred reports whether the document prefers a path to another one with the same ends:
// where they part, from the end on, it comes from a pair that is named earlier.
func isPreferred(path, other []impl.Pair) bool {
	for back := 1; ; back++ {
		p, q := path[len(path)-back], other[len(other)-back]
		if p != q {
			end := path[len(path)-back+1]
			named := pairs(end.I-1, end.J-1, end.I-1, end.J, end.I, end.J-1)
			return slices.Index(named, p) < slices.Index(named, q)
		}
		if back == len(path) {
			return false
		}
	}
}

// bestAmong returns the least cost of paths, and of those with this cost the one that is preferred.
func bestAmong(a, b []impl.Feat, paths [][]impl.Pair) (int64, []impl.Pair) {
	best, least := paths[0], costAlong(a, b, paths[0])
	for _, path := range paths[1:] {
		if cost := costAlong(a, b, path); cost < least || cost == least && isPreferred(path, best) {
			best, least = path, cost
		}
	}
	return least, best
}

// restCosts returns the least costs of all paths from each pair to the last one, for longer lists: from the end on.
func restCosts(a, b []impl.Feat, band int64) map[impl.Pair]int64 {
	costs := map[impl.Pair]int64{}
	last := match(int64(len(a)-1), int64(len(b)-1))
	for i := last.I; i >= 0; i-- {
		for j := last.J; j >= 0; j-- {
			var rests []int64
			for _, q := range pairs(i+1, j+1, i, j+1, i+1, j) {
				if cost, ok := costs[q]; ok {
					rests = append(rests, cost)
				}
			}
			switch p := match(i, j); {
			case p == last:
				costs[p] = costBetween(a[i], b[j])
			case isNear(p, band) && len(rests) > 0:
				costs[p] = costBetween(a[i], b[j]) + slices.Min(rests)
			}
		}
	}
	return costs
}

// leastOf returns the least cost of all paths; the lengths differ by at most band.
func leastOf(a, b []impl.Feat, band int64) int64 { return restCosts(a, b, band)[match(0, 0)] }

// bestPart tries all parts of b, those first that are preferred; least returns the least cost of two lists.
func bestPart(a, b []impl.Feat, least func(a, part []impl.Feat) int64) (int64, int64, int64) {
	best, bestFrom, bestTo := int64(-1), 0, 0
	for to := 1; to <= len(b); to++ {
		for from := to - 1; from >= 0; from-- {
			if cost := least(a, b[from:to]); best < 0 || cost < best {
				best, bestFrom, bestTo = cost, from, to
			}
		}
	}
	return best, int64(bestFrom), int64(bestTo)
}

// blendAlong returns the features that BlendFeats has to return: means of as many numbers of a as of b.
func blendAlong(a, b []impl.Feat, path []impl.Pair) []impl.Feat {
	var blends []impl.Feat
	for i, f := range a {
		x, y, count := int64(0), int64(0), int64(0)
		for _, p := range path {
			if p.I == int64(i) {
				x, y, count = x+f.X+b[p.J].X, y+f.Y+b[p.J].Y, count+2
			}
		}
		blends = append(blends, feat(rounded(x, count), rounded(y, count), f.D))
	}
	return blends
}

// exchanged returns a path for the exchanged lists.
func exchanged(path []impl.Pair) []impl.Pair {
	var with []impl.Pair
	for _, p := range path {
		with = append(with, match(p.J, p.I))
	}
	return with
}

// randomMatches returns a path for n and m elements.
func randomMatches(s *source, n, m int64) []impl.Pair {
	path := pairs(0, 0)
	for {
		p := path[len(path)-1]
		if p == match(n-1, m-1) {
			return path
		}
		next := pairs(p.I+1, p.J+1, p.I+1, p.J, p.I, p.J+1)[s.below(3)]
		if next.I < n && next.J < m {
			path = append(path, next)
		}
	}
}

// closeFeats returns so many features of few different sorts, so that many paths are equally good.
func closeFeats(s *source, count int64) []impl.Feat {
	var list []impl.Feat
	for range count {
		list = append(list, feat(s.below(3), s.below(2), s.below(3)*s.below(3)))
	}
	return list
}

// seqPair are two sequences.
type seqPair struct {
	a, b []impl.Feat
}

// smallSeqs are pairs of sequences for which all paths can be tried.
func smallSeqs(s *source, count, most int64) []seqPair {
	var list []seqPair
	for range count {
		n, m := 1+s.below(most), 1+s.below(most)
		list = append(list, seqPair{line(randomNumbers(s, n, 3)...), line(randomNumbers(s, m, 3)...)})
		list = append(list, seqPair{closeFeats(s, n), closeFeats(s, m)}, seqPair{randomFeats(s, n), randomFeats(s, m)})
	}
	return list
}

// randomNumbers returns so many numbers below another one.
func randomNumbers(s *source, count, below int64) []int64 {
	var list []int64
	for range count {
		list = append(list, s.below(below))
	}
	return list
}

// longSeqs are pairs of sequences of all lengths.
func longSeqs(s *source, count int64) []seqPair {
	most := int64(impl.MaxSeq)
	list := []seqPair{
		{randomFeats(s, most), randomFeats(s, most)}, {closeFeats(s, most), closeFeats(s, most)}, {closeFeats(s, most), closeFeats(s, most-1)},
		{randomFeats(s, 1), closeFeats(s, most)}, {randomFeats(s, most), randomFeats(s, 1)}, {randomFeats(s, 1), randomFeats(s, 1)},
	}
	for range count {
		list = append(list, seqPair{closeFeats(s, 1+s.below(most)), closeFeats(s, 1+s.below(most))})
		list = append(list, seqPair{randomFeats(s, 1+s.below(40)), randomFeats(s, 1+s.below(40))})
	}
	return list
}

// difference returns the least band that is enough for two sequences.
func (p seqPair) difference() int64 { return gap(int64(len(p.a)), int64(len(p.b))) }

// bandsFor returns the bands from the least one that is enough up to the first one that bars nothing.
func (p seqPair) bandsFor() []int64 {
	var bands []int64
	for band := p.difference(); band <= int64(max(len(p.a), len(p.b))); band++ {
		bands = append(bands, band)
	}
	return bands
}

// wrongSeqs are no sequences, each for one reason.
func wrongSeqs() map[string][]impl.Feat {
	s := source(150)
	lists := map[string][]impl.Feat{
		"nil": nil, "empty": {}, "one too many": randomFeats(&s, impl.MaxSeq+1), "equal ones, one too many": make([]impl.Feat, impl.MaxSeq+1),
		"two too many": randomFeats(&s, impl.MaxSeq+2), "the most features": randomFeats(&s, impl.MaxFeatList), "more than the most features": make([]impl.Feat, impl.MaxFeatList+1),
	}
	for name, f := range wrongFeats() {
		lists["only one: "+name] = []impl.Feat{f}
		lists["first one: "+name] = []impl.Feat{f, feat(1, 2, 3), feat(4, 5, 6)}
		lists["middle one: "+name] = []impl.Feat{feat(1, 2, 3), f, feat(4, 5, 6)}
		lists["last one: "+name] = []impl.Feat{feat(1, 2, 3), feat(4, 5, 6), f}
		lists["last one of the most: "+name] = append(randomFeats(&s, impl.MaxSeq-1), f)
	}
	return lists
}

// refusedSeqs checks a function of two sequences with invalid ones, on one side and on both.
func refusedSeqs(t *testing.T, name string, call func(a, b []impl.Feat) []any, want []any) {
	t.Helper()
	good := line(1, 2, 3)
	for reason, list := range wrongSeqs() {
		is(t, name+": a: "+reason, call(list, good), want)
		is(t, name+": b: "+reason, call(good, list), want)
		is(t, name+": both: "+reason, call(list, list), want)
	}
}

// brokenPaths are no paths for 3 and 4 elements, each for one reason.
func brokenPaths() map[string][]impl.Pair {
	broken := map[string][]impl.Pair{
		"nil": nil, "empty": {}, "the first pair only": pairs(0, 0), "the last pair only": pairs(2, 3),
		"no first pair":            pairs(0, 1, 1, 2, 2, 3),
		"no first pair, I":         pairs(1, 0, 1, 1, 1, 2, 2, 3),
		"no first pairs":           pairs(1, 2, 2, 3),
		"begins before the first":  pairs(-1, -1, 0, 0, 1, 1, 1, 2, 2, 3),
		"begins at J -1":           pairs(0, -1, 0, 0, 1, 1, 1, 2, 2, 3),
		"begins at I -1":           pairs(-1, 0, 0, 0, 1, 1, 1, 2, 2, 3),
		"no last pair":             pairs(0, 0, 0, 1, 1, 2),
		"ends at I less":           pairs(0, 0, 0, 1, 1, 2, 1, 3),
		"ends at J less":           pairs(0, 0, 1, 1, 2, 2),
		"ends at I more":           pairs(0, 0, 0, 1, 1, 2, 2, 3, 3, 3),
		"ends at J more":           pairs(0, 0, 0, 1, 1, 2, 2, 3, 2, 4),
		"ends at both more":        pairs(0, 0, 0, 1, 1, 2, 2, 3, 3, 4),
		"goes beyond and back":     pairs(0, 0, 0, 1, 1, 2, 2, 3, 3, 4, 2, 3),
		"the first pair twice":     pairs(0, 0, 0, 0, 0, 1, 1, 2, 2, 3),
		"a pair twice":             pairs(0, 0, 0, 1, 0, 1, 1, 2, 2, 3),
		"the last pair twice":      pairs(0, 0, 0, 1, 1, 2, 2, 3, 2, 3),
		"a step of 2 in I":         pairs(0, 0, 0, 1, 0, 2, 2, 3),
		"a step of 2 in I only":    pairs(0, 0, 2, 0, 2, 1, 2, 2, 2, 3),
		"a step of 2 in J":         pairs(0, 0, 1, 1, 2, 3),
		"a step of 2 in J only":    pairs(0, 0, 0, 2, 1, 3, 2, 3),
		"a step of 2 in both":      pairs(0, 0, 0, 1, 2, 3),
		"steps of 2 at first":      pairs(0, 0, 2, 2, 2, 3),
		"a step of 3":              pairs(0, 0, 0, 3, 1, 3, 2, 3),
		"one step from end to end": pairs(0, 0, 2, 3),
		"backwards in I":           pairs(0, 0, 1, 0, 0, 1, 1, 2, 2, 3),
		"backwards in I only":      pairs(0, 0, 1, 1, 0, 1, 1, 2, 2, 3),
		"backwards in J":           pairs(0, 0, 0, 1, 1, 0, 1, 1, 2, 2, 2, 3),
		"backwards in J only":      pairs(0, 0, 0, 1, 0, 0, 0, 1, 1, 2, 2, 3),
		"backwards in both":        pairs(0, 0, 1, 1, 0, 0, 1, 1, 1, 2, 2, 3),
		"one forwards, one back":   pairs(0, 0, 0, 1, 1, 0, 2, 1, 2, 2, 2, 3),
		"one back, one forwards":   pairs(0, 0, 1, 0, 0, 1, 0, 2, 1, 3, 2, 3),
		"in reverse order":         pairs(2, 3, 1, 2, 0, 1, 0, 0),
		"exchanged":                pairs(0, 0, 1, 0, 2, 1, 3, 2),
		"two parts exchanged":      pairs(0, 0, 1, 2, 0, 1, 2, 3),
		"I does not begin":         pairs(0, 1, 1, 1, 1, 2, 2, 3),
	}
	for _, n := range extremes() {
		name := impl.Decimal(n)
		broken["the first pair at "+name] = pairs(n, n, 0, 1, 1, 2, 2, 3)
		broken["the last pair at "+name] = pairs(0, 0, 0, 1, 1, 2, n, n)
		broken["a pair at "+name] = pairs(0, 0, n, n, 0, 1, 1, 2, 2, 3)
		broken["I at "+name] = pairs(0, 0, n, 1, 1, 2, 2, 3)
		broken["J at "+name] = pairs(0, 0, 0, n, 1, 2, 2, 3)
		broken["opposite numbers: "+name] = pairs(0, 0, n, -n, 1, 2, 2, 3)
		broken["pairs behind "+name] = pairs(0, 0, n-1, n-1, n, n, n+1, n+1, 2, 3)
	}
	return broken
}
