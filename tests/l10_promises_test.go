package tests

import (
	"slices"
	"testing"

	"loop.example/g00918/impl"
)

// boundCalls are calls of all functions of chapter 10; its numbers are n, a band and a limit.
func boundCalls(a, b []impl.Feat, e impl.Envelope, lists [][]impl.Feat, n, band, limit int64) []any {
	own, ownCode := impl.EnvelopeOf(b, n, band)
	fitting, fittingCode := impl.EnvelopeOf(b, int64(len(a)), band)
	return all(
		impl.ValidEnvelope(e), own, ownCode, fitting, fittingCode, all(impl.OutsideOf(a, e)), all(impl.OutsideOf(a, own)), all(impl.OutsideOf(a, fitting)),
		all(impl.EndsBound(a, b)), all(impl.LowerBound(a, b, band)), searchCalls(a, lists, band, limit),
	)
}

// sampleSeqs are sequences and lists that are none.
func sampleSeqs(s *source) [][]impl.Feat {
	var lists [][]impl.Feat
	for _, p := range append(longSeqs(s, 20), smallSeqs(s, 30, 6)...) {
		lists = append(lists, p.a, p.b)
	}
	return lists
}

// TestPurityOfBounds is for promise 1: calls return, leave their arguments as they are, and repeat their results.
func TestPurityOfBounds(t *testing.T) {
	s := source(231)
	numbers := append(extremes(), 0, 1, 2, 3, 4, -1, 8, 71, impl.MaxSeq, impl.MaxSeq, impl.MaxSeq+1)
	number := func() int64 { return numbers[s.below(int64(len(numbers)))] }
	right, wrong := sampleSeqs(&s), inOrder(wrongSeqs())
	envelopes := append(inOrder(wrongEnvelopes()), plainEnvelope(), levelEnvelope(72, 5, 100, 90, 200))
	for range 1000 {
		some := right
		if s.below(3) == 0 {
			some = append(slices.Clone(wrong), right...)
		}
		pick := func() []impl.Feat { return some[s.below(int64(len(some)))] }
		a, b, e := pick(), pick(), envelopes[s.below(int64(len(envelopes)))]
		if s.below(2) == 0 {
			e = levelEnvelope(max(len(a), 1), s.below(9), 9+s.below(99), s.below(9), 9+s.below(99))
		}
		var lists [][]impl.Feat
		for range s.below(6) * s.below(6) * s.below(3) {
			lists = append(lists, pick())
		}
		n, band, limit := number(), number(), number()
		one, two, three, four := roomy(a), roomy(b), roomy(e), roomy(lists)
		before := memoryOf(one, two, three, four)
		results := boundCalls(one, two, three, four, n, band, limit)
		is(t, "arguments", memoryOf(one, two, three, four), before)
		is(t, "equal results", boundCalls(roomy(a), roomy(b), roomy(e), roomy(lists), n, band, limit), results)
	}
}

// TestBoundsWithExtremes has numbers near the ends of int64 in all places of a call.
func TestBoundsWithExtremes(t *testing.T) {
	good, none := line(1, 2), impl.Envelope{}
	for _, n := range extremes() {
		for _, m := range extremes() {
			is(t, "in n and the band", all(impl.EnvelopeOf(good, n, m)), all(none, impl.ErrRange))
			is(t, "in n", all(impl.EnvelopeOf(good, n, 72)), all(none, impl.ErrRange))
			is(t, "in a band", all(impl.EnvelopeOf(good, 2, n)), all(none, impl.ErrRange))
			is(t, "in the band of a bound", all(impl.LowerBound(good, good, n)), all(0, impl.ErrRange))
			is(t, "in the band of searches", searchCalls(good, seqs(good), n, m), refusedSearches(impl.ErrRange))
			wrong := feats(n, m, 0, m, n, 0)
			is(t, "in features", all(impl.EnvelopeOf(wrong, n, m)), all(none, impl.ErrInvalid))
			is(t, "outside", all(impl.OutsideOf(wrong, levelEnvelope(2, 0, 255, 0, 255))), all(0, impl.ErrInvalid))
			is(t, "at the ends", all(all(impl.EndsBound(good, wrong)), all(impl.EndsBound(wrong, good))), all(all(0, impl.ErrInvalid), all(0, impl.ErrInvalid)))
			is(t, "in lists", searchCalls(good, seqs(good, wrong), n, m), refusedSearches(impl.ErrInvalid))
			for _, e := range []impl.Envelope{levelEnvelope(2, n, m, 0, 255), levelEnvelope(2, 0, 255, n, m), levelEnvelope(2, n, m, n, m)} {
				is(t, "in an envelope", all(impl.ValidEnvelope(e), all(impl.OutsideOf(good, e))), all(false, all(0, impl.ErrInvalid)))
			}
		}
		want := withinAmong([]tried{{0, 0, 0}, {1, 7, 7}}, n)
		is(t, "in a limit", all(impl.WithinCost(good, seqs(good, line(1, 9)), 1, n)), all(want, impl.OK))
	}
}

// TestBoundResultsAreNew is for promise 1: a result shares no memory with an argument or with another result.
func TestBoundResultsAreNew(t *testing.T) {
	results := func(a []impl.Feat, lists [][]impl.Feat, band int64) map[string]any {
		e, _ := impl.EnvelopeOf(a, int64(len(a)), band)
		within, _ := impl.WithinCost(a, lists, band, greatestInt)
		order, _ := impl.BoundOrder(a, lists, band)
		return map[string]any{"EnvelopeOf": e, "WithinCost": within, "BoundOrder": order}
	}
	s := source(232)
	for range 100 {
		length := 1 + s.below(impl.MaxSeq)
		a, lists := roomy(randomFeats(&s, length)), roomy(manyLists(&s, length, 12, closeFeats))
		for _, band := range row(0, 3, impl.MaxSeq) {
			one, again := results(a, lists, band), results(a, lists, band)
			for name, result := range one {
				is(t, name, all(sharesMemory(result, a, lists), sharesMemory(result, inOrder(again)...)), all(false, false))
			}
		}
	}
	e, _ := impl.EnvelopeOf(feats(7, 7, 7), 1, 0)
	is(t, "four lists that are equal", all(e, sharesMemory(e)), all(levelEnvelope(1, 7, 7, 7, 7), false))
}

// TestBoundResultsWhenOverwritten is for promise 1, with what can be seen of it from without.
func TestBoundResultsWhenOverwritten(t *testing.T) {
	s := source(233)
	for range 30 {
		length := 1 + s.below(impl.MaxSeq)
		a, b := roomy(randomFeats(&s, length)), roomy(closeFeats(&s, length))
		lists := roomy(append(manyLists(&s, length, 12, closeFeats), b))
		e := roomy(levelEnvelope(int(length), 5, 9, 0, 200))
		before := memoryOf(a, b, e, lists)
		want := boundCalls(a, b, e, lists, length, 5, 900)
		own, _ := impl.EnvelopeOf(b, length, 5)
		within, _ := impl.WithinCost(a, lists, 5, 90000)
		order, _ := impl.BoundOrder(a, lists, 5)
		for _, list := range [][]int64{own.LowX, own.HighX, own.LowY, own.HighY, within, order} {
			list = list[:cap(list)]
			for at := range list {
				list[at] = -9
			}
		}
		is(t, "the arguments when the results are overwritten", memoryOf(a, b, e, lists), before)
		is(t, "further results", boundCalls(a, b, e, lists, length, 5, 900), want)
	}
}

// TestBoundsOfSharedMemory gives lists that are the same memory, or parts of one list.
func TestBoundsOfSharedMemory(t *testing.T) {
	s := source(234)
	list := closeFeats(&s, impl.MaxSeq)
	numbers := randomNumbers(&s, impl.MaxSeq, 256)
	before := memoryOf(list, numbers)
	for range 100 {
		from, to := s.below(30), 31+s.below(40)
		a, b := list[from:to], list[from/2:to-5]
		lists := seqs(a, b, a, list, list[:to-from], list[to-1:])
		e := envelope(numbers[from:to], numbers[from:to], numbers[:to-from], numbers[:to-from])
		apart := boundCalls(roomy(a), roomy(b), roomy(e), roomy(lists), 40, 60, 99)
		is(t, "as if apart", boundCalls(a, b, e, lists, 40, 60, 99), apart)
		is(t, "the memory stays", memoryOf(list, numbers), before)
	}
}

// TestPruningChangesNothing is for promise 10.
func TestPruningChangesNothing(t *testing.T) {
	s := source(235)
	saved := int64(0)
	for range 300 {
		length := 1 + s.below(impl.MaxSeq)
		some := []func(*source, int64) []impl.Feat{closeFeats, randomFeats, driftingFeats}[s.below(3)]
		a, lists := some(&s, length), manyLists(&s, length, impl.MaxLists, some)
		band := row(0, 1, 3, s.below(impl.MaxSeq), impl.MaxSeq)[s.below(5)]
		index, cost, code := impl.NearestOf(a, lists, band)
		other, same, matched, sameCode := impl.NearestPruned(a, lists, band)
		is(t, "the same", all(other, same, sameCode), all(index, cost, code))
		order, _ := impl.BoundOrder(a, lists, band)
		taking := int64(len(order))
		is(t, "not more than take part, and one of them", all(matched <= taking, matched > 0), all(true, taking > 0))
		saved += taking - matched
		checkBoundOrder(t, a, lists, order, band, cost)
	}
	is(t, "some lists are left out", saved > 300, true)
}

// checkBoundOrder goes through lists in the order of their bounds, up to the first bound that is not less than the least cost.
func checkBoundOrder(t *testing.T, a []impl.Feat, lists [][]impl.Feat, order []int64, band, want int64) {
	t.Helper()
	least, before := int64(greatestInt), int64(0)
	for _, at := range order {
		bound, code := impl.LowerBound(a, lists[at], band)
		is(t, "in order", all(bound >= before, code), all(true, impl.OK))
		before = bound
		if bound < least {
			cost, _ := impl.Elastic(a, lists[at], band)
			least = min(least, cost)
		}
	}
	if len(order) > 0 {
		is(t, "the least cost in the order of the bounds", least, want)
	}
}

// TestSearchesAgree compares the searches with each other and with the functions of two lists.
func TestSearchesAgree(t *testing.T) {
	s := source(236)
	for range 200 {
		length := 1 + s.below(20)
		a, lists, band := closeFeats(&s, length), manyLists(&s, length, impl.MaxLists, closeFeats), s.below(5)
		var taking []int64
		for at, list := range lists {
			_, code := impl.Elastic(a, list, band)
			_, boundCode := impl.LowerBound(a, list, band)
			is(t, "as Elastic", boundCode, code)
			if code == impl.OK {
				taking = append(taking, int64(at))
			}
		}
		every, _ := impl.WithinCost(a, lists, band, greatestInt)
		is(t, "all that take part", every, taking)
		order, _ := impl.BoundOrder(a, lists, band)
		is(t, "each of them once", slices.Sorted(slices.Values(order)), taking)
		index, cost, code := impl.NearestOf(a, lists, band)
		if code != impl.OK {
			is(t, "none takes part", all(code, len(taking)), all(impl.ErrNotFound, 0))
			continue
		}
		is(t, "its cost", all(impl.Elastic(a, lists[index], band)), all(cost, impl.OK))
		nearest, _ := impl.WithinCost(a, lists, band, cost)
		is(t, "the first one of the nearest", nearest[0], index)
		is(t, "none is nearer", all(impl.WithinCost(a, lists, band, cost-1)), all([]int64{}, impl.OK))
	}
}
