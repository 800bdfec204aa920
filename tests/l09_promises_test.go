package tests

import (
	"slices"
	"testing"

	"loop.example/g00918/impl"
)

// matchCalls are calls of all functions of chapter 9.
func matchCalls(a, b []impl.Feat, path []impl.Pair, n, m, band int64) []any {
	featCost, featCode := impl.FeatCost(feat(n, m, band), feat(m, n, 3))
	cost, costCode := impl.Elastic(a, b, band)
	best, bestCode := impl.ElasticPath(a, b, band)
	pathCost, pathCode := impl.PathCost(a, b, path)
	back, backCode := impl.ReversePath(path)
	part, from, to, partCode := impl.PartElastic(a, b)
	blends, blendCode := impl.BlendFeats(a, b, path)
	bestBlends, bestBlendCode := impl.BlendFeats(a, b, best)
	return all(
		impl.ValidSeq(a), impl.ValidPath(path, n, m, band), impl.ValidPath(best, int64(len(a)), int64(len(b)), band), featCost, featCode,
		cost, costCode, best, bestCode, pathCost, pathCode, back, backCode, part, from, to, partCode, blends, blendCode, bestBlends, bestBlendCode,
	)
}

// TestPurityOfMatching is for promise 1: calls return, leave their arguments as they are, and repeat their results.
func TestPurityOfMatching(t *testing.T) {
	s := source(170)
	numbers := append(extremes(), 0, 1, 2, 3, 4, -1, 8, 71, impl.MaxSeq, impl.MaxSeq+1)
	number := func() int64 { return numbers[s.below(int64(len(numbers)))] }
	var lists [][]impl.Feat
	for _, p := range append(longSeqs(&s, 20), smallSeqs(&s, 30, 6)...) {
		lists = append(lists, p.a, p.b)
	}
	lists = append(lists, inOrder(wrongSeqs())...)
	paths := append(inOrder(brokenPaths()), pairs(0, 0), column(72), column(73), column(2000))
	for range 1500 {
		list, other := lists[s.below(int64(len(lists)))], lists[s.below(int64(len(lists)))]
		path, n, m, band := paths[s.below(int64(len(paths)))], number(), number(), number()
		if s.below(2) == 0 && len(list) > 0 && len(other) > 0 {
			path = randomMatches(&s, int64(len(list)), int64(len(other)))
		}
		a, b, way := roomy(list), roomy(other), roomy(path)
		before := memoryOf(a, b, way)
		results := matchCalls(a, b, way, n, m, band)
		is(t, "arguments", memoryOf(a, b, way), before)
		is(t, "equal results", matchCalls(roomy(list), roomy(other), roomy(path), n, m, band), results)
	}
}

// TestMatchingWithExtremes has numbers near the ends of int64 in all places of a call.
func TestMatchingWithExtremes(t *testing.T) {
	for _, n := range extremes() {
		for _, m := range extremes() {
			lists := all(0, impl.ErrInvalid, []impl.Pair{}, impl.ErrInvalid)
			is(t, "in features", bandCalls(feats(n, m, 0), feats(m, n, 0), n), lists)
			is(t, "in a feature", all(impl.FeatCost(feat(n, m, n), feat(m, n, m))), all(0, impl.ErrInvalid))
			is(t, "in pairs", all(impl.ValidPath(pairs(n, m), n, m, n), impl.ValidPath(pairs(0, 0, n, m), n+1, m+1, greatestInt)), all(false, false))
			is(t, "in a path", all(impl.PathCost(line(1, 2), line(1, 2), pairs(0, 0, n, m))), all(0, impl.ErrRange))
			is(t, "in a blend", all(impl.BlendFeats(line(1, 2), line(1, 2), pairs(0, 0, n, m))), all([]impl.Feat{}, impl.ErrRange))
			is(t, "in a reversed path", all(impl.ReversePath(pairs(0, 0, n, m))), all([]impl.Pair{}, impl.ErrInvalid))
		}
	}
}

// TestMatchingResultsAreNew is for promise 1: a result shares no memory with an argument or with another result.
func TestMatchingResultsAreNew(t *testing.T) {
	results := func(a, b []impl.Feat, path []impl.Pair) map[string]any {
		best, _ := impl.ElasticPath(a, b, impl.MaxSeq)
		back, _ := impl.ReversePath(path)
		blends, _ := impl.BlendFeats(a, b, path)
		return map[string]any{"ElasticPath": best, "ReversePath": back, "BlendFeats": blends}
	}
	s := source(171)
	for _, p := range append(longSeqs(&s, 10), smallSeqs(&s, 20, 6)...) {
		a, b, path := roomy(p.a), roomy(p.b), roomy(randomMatches(&s, int64(len(p.a)), int64(len(p.b))))
		one, again := results(a, b, path), results(a, b, path)
		for name, result := range one {
			is(t, name, all(sharesMemory(result, a, b, path), sharesMemory(result, inOrder(again)...)), all(false, false))
		}
	}
	single := roomy(pairs(0, 0))
	back, _ := impl.ReversePath(single)
	is(t, "a path that is its own reverse", sharesMemory(back, single), false)
	same := roomy(feats(7, 8, 5))
	blends, _ := impl.BlendFeats(same, same, single)
	is(t, "features that stay", all(blends, sharesMemory(blends, same)), all(same, false))
}

// TestMatchingResultsWhenOverwritten is for promise 1, with what can be seen of it from without.
func TestMatchingResultsWhenOverwritten(t *testing.T) {
	s := source(172)
	for _, p := range longSeqs(&s, 10) {
		a, b, path := roomy(p.a), roomy(p.b), roomy(randomMatches(&s, int64(len(p.a)), int64(len(p.b))))
		before := memoryOf(a, b, path)
		want := matchCalls(a, b, path, 2, 3, impl.MaxSeq)
		best, _ := impl.ElasticPath(a, b, impl.MaxSeq)
		back, _ := impl.ReversePath(path)
		blends, _ := impl.BlendFeats(a, b, path)
		clear(best[:cap(best)])
		clear(back[:cap(back)])
		clear(blends[:cap(blends)])
		is(t, "the arguments when the results are overwritten", memoryOf(a, b, path), before)
		is(t, "further results", matchCalls(a, b, path, 2, 3, impl.MaxSeq), want)
	}
}

// TestMatchingOfSharedMemory gives lists that are the same memory, or parts of one list.
func TestMatchingOfSharedMemory(t *testing.T) {
	s := source(173)
	list := closeFeats(&s, impl.MaxSeq)
	before := memoryOf(list)
	for range 200 {
		from, to := s.below(30), 31+s.below(40)
		n := to - from
		other, m := list[from/2:to-5], to-5-from/2
		path := randomMatches(&s, n, m)
		apart := matchCalls(roomy(list[from:to]), roomy(other), path, n, m, 60)
		is(t, "as if apart", matchCalls(list[from:to], other, path, n, m, 60), apart)
		self := matchCalls(roomy(list[:n]), roomy(list[:n]), path, n, n, 5)
		is(t, "with itself", matchCalls(list[:n], list[:n], path, n, n, 5), self)
		is(t, "the list stays", memoryOf(list), before)
	}
}

// TestLeastCostInBothDirections is for promise 9: exchanged lists have the same least cost within every band.
func TestLeastCostInBothDirections(t *testing.T) {
	s := source(174)
	for _, p := range append(longSeqs(&s, 40), smallSeqs(&s, 150, 8)...) {
		mirroredA, _ := impl.MirrorFeats(p.a)
		mirroredB, _ := impl.MirrorFeats(p.b)
		for _, band := range []int64{p.difference(), min(p.difference()+1, impl.MaxSeq), min(p.difference()+s.below(20), impl.MaxSeq), impl.MaxSeq} {
			cost, code := impl.Elastic(p.a, p.b, band)
			is(t, "the code", code, impl.OK)
			is(t, "exchanged", all(impl.Elastic(p.b, p.a, band)), all(cost, impl.OK))
			is(t, "mirrored", all(impl.Elastic(mirroredA, mirroredB, band)), all(cost, impl.OK))
			path, _ := impl.ElasticPath(p.a, p.b, band)
			is(t, "the path for exchanged lists", all(impl.PathCost(p.b, p.a, exchanged(path))), all(cost, impl.OK))
			is(t, "it is within the band", impl.ValidPath(exchanged(path), int64(len(p.b)), int64(len(p.a)), band), true)
		}
	}
}

// TestLeastCostFromTheEnd is for promise 9: lists from their ends on have the same least cost.
// A band of lists with different lengths is not the same from the end on, so that it must bar nothing there.
func TestLeastCostFromTheEnd(t *testing.T) {
	s := source(178)
	for _, p := range append(longSeqs(&s, 40), smallSeqs(&s, 150, 8)...) {
		checkFromTheEnd(t, p, impl.MaxSeq)
		n := min(len(p.a), len(p.b))
		for _, band := range []int64{0, 1, s.below(int64(n)), impl.MaxSeq} {
			checkFromTheEnd(t, seqPair{p.a[:n], p.b[:n]}, band)
		}
	}
}

func checkFromTheEnd(t *testing.T, p seqPair, band int64) {
	t.Helper()
	back := seqPair{slices.Clone(p.a), slices.Clone(p.b)}
	slices.Reverse(back.a)
	slices.Reverse(back.b)
	turnedA, _ := impl.BackFeats(p.a)
	turnedB, _ := impl.BackFeats(p.b)
	cost, code := impl.Elastic(p.a, p.b, band)
	is(t, "the code", code, impl.OK)
	is(t, "from the end", all(impl.Elastic(back.a, back.b, band)), all(cost, impl.OK))
	is(t, "from the end, exchanged", all(impl.Elastic(back.b, back.a, band)), all(cost, impl.OK))
	is(t, "turned", all(impl.Elastic(turnedA, turnedB, band)), all(cost, impl.OK))
	path, _ := impl.ElasticPath(p.a, p.b, band)
	reverse, _ := impl.ReversePath(path)
	is(t, "the path from the end", all(impl.PathCost(back.a, back.b, reverse)), all(cost, impl.OK))
	is(t, "it is within the band", impl.ValidPath(reverse, int64(len(p.a)), int64(len(p.b)), band), true)
}

// TestLeastCostOfAnyPath is for promise 9: no path costs less, and ElasticPath costs as much.
func TestLeastCostOfAnyPath(t *testing.T) {
	s := source(175)
	for _, p := range append(longSeqs(&s, 40), smallSeqs(&s, 150, 8)...) {
		n, m := int64(len(p.a)), int64(len(p.b))
		for range 10 {
			path := randomMatches(&s, n, m)
			furthest := int64(0)
			for _, q := range path {
				furthest = max(furthest, gap(q.I, q.J))
			}
			cost, code := impl.PathCost(p.a, p.b, path)
			least, leastCode := impl.Elastic(p.a, p.b, furthest)
			is(t, "not greater", all(least <= cost, code, leastCode), all(true, impl.OK, impl.OK))
		}
		before := int64(greatestInt)
		for band := p.difference(); band <= impl.MaxSeq; band += 1 + s.below(5) {
			cost, _ := impl.Elastic(p.a, p.b, band)
			path, code := impl.ElasticPath(p.a, p.b, band)
			is(t, "a path", all(code, impl.ValidPath(path, n, m, band)), all(impl.OK, true))
			is(t, "its cost", all(impl.PathCost(p.a, p.b, path)), all(cost, impl.OK))
			is(t, "a wider band does not cost more", cost <= before, true)
			before = cost
		}
	}
}

// TestMatchingOfEqualLists has lists that are matched with themselves, element by element.
func TestMatchingOfEqualLists(t *testing.T) {
	s := source(176)
	for _, p := range longSeqs(&s, 30) {
		var diagonal []impl.Pair
		for k := range int64(len(p.a)) {
			diagonal = append(diagonal, match(k, k))
		}
		for _, band := range []int64{0, s.below(impl.MaxSeq), impl.MaxSeq} {
			is(t, "nothing", all(impl.Elastic(p.a, p.a, band)), all(0, impl.OK))
			is(t, "the diagonal", all(impl.ElasticPath(p.a, p.a, band)), all(diagonal, impl.OK))
		}
		is(t, "the diagonal from the end", all(impl.ReversePath(diagonal)), all(diagonal, impl.OK))
		is(t, "blended with itself", all(impl.BlendFeats(p.a, p.a, diagonal)), all(p.a, impl.OK))
	}
}

// TestPartsCostNoMoreThanTheWhole has the whole list as one of the parts, and the least cost of the part that is told.
func TestPartsCostNoMoreThanTheWhole(t *testing.T) {
	s := source(177)
	for _, p := range longSeqs(&s, 40) {
		cost, from, to, code := impl.PartElastic(p.a, p.b)
		whole, _ := impl.Elastic(p.a, p.b, impl.MaxSeq)
		is(t, "not more than the whole", all(code, cost <= whole), all(impl.OK, true))
		is(t, "the cost of the part", all(impl.Elastic(p.a, p.b[from:to], impl.MaxSeq)), all(cost, impl.OK))
	}
}
