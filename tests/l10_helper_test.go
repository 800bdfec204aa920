package tests

import (
	"cmp"
	"slices"
	"testing"

	"loop.example/g00918/impl"
)

// What follows states chapter 10 in another way, without the program's functions.

func envelope(lowX, highX, lowY, highY []int64) impl.Envelope {
	return impl.Envelope{LowX: lowX, HighX: highX, LowY: lowY, HighY: highY}
}

// levelEnvelope has so many elements, all with the same numbers.
func levelEnvelope(count int, lowX, highX, lowY, highY int64) impl.Envelope {
	level := func(n int64) []int64 { return slices.Repeat(row(n), count) }
	return envelope(level(lowX), level(highX), level(lowY), level(highY))
}

// envelopeFor returns the envelope of b for n elements: it looks at all features for each index.
func envelopeFor(b []impl.Feat, n, band int64) impl.Envelope {
	var e impl.Envelope
	for i := range n {
		var xs, ys []int64
		for j, f := range b {
			if isNear(match(i, int64(j)), band) {
				xs, ys = append(xs, f.X), append(ys, f.Y)
			}
		}
		e.LowX, e.HighX = append(e.LowX, slices.Min(xs)), append(e.HighX, slices.Max(xs))
		e.LowY, e.HighY = append(e.LowY, slices.Min(ys)), append(e.HighY, slices.Max(ys))
	}
	return e
}

// stepsInto counts the steps from a number to the nearest one from low to high.
func stepsInto(n, low, high int64) int64 {
	steps := int64(0)
	for n+steps < low || n-steps > high {
		steps++
	}
	return steps
}

// outsideFor returns how far a list is outside of an envelope with as many elements.
func outsideFor(a []impl.Feat, e impl.Envelope) int64 {
	sum := int64(0)
	for i, f := range a {
		sum += stepsInto(f.X, e.LowX[i], e.HighX[i]) + stepsInto(f.Y, e.LowY[i], e.HighY[i])
	}
	return sum
}

// endsFor returns the cost of the pairs in which every path begins and ends, which may be the same one.
func endsFor(a, b []impl.Feat) int64 {
	ends := append(pairs(0, 0), match(int64(len(a)-1), int64(len(b)-1)))
	return costAlong(a, b, slices.Compact(ends))
}

func boundFor(a, b []impl.Feat, band int64) int64 {
	return max(outsideFor(a, envelopeFor(b, int64(len(a)), band)), endsFor(a, b))
}

// tried is a list that takes part in a search.
type tried struct {
	index, cost, bound int64
}

// triedAmong returns the lists that take part, in order.
func triedAmong(a []impl.Feat, lists [][]impl.Feat, band int64) []tried {
	var list []tried
	for at, b := range lists {
		if (seqPair{a, b}).difference() <= band {
			list = append(list, tried{int64(at), leastOf(a, b, band), boundFor(a, b, band)})
		}
	}
	return list
}

// nearestAmong returns what NearestOf has to return: it goes from the last list to the first one.
func nearestAmong(list []tried) []any {
	if len(list) == 0 {
		return all(0, 0, impl.ErrNotFound)
	}
	best := list[len(list)-1]
	for _, l := range slices.Backward(list) {
		if l.cost <= best.cost {
			best = l
		}
	}
	return all(best.index, best.cost, impl.OK)
}

// matchedAmong returns how many lists NearestPruned matches.
func matchedAmong(list []tried) int64 {
	var costs []int64
	for _, l := range list {
		if len(costs) == 0 || l.bound < slices.Min(costs) {
			costs = append(costs, l.cost)
		}
	}
	return int64(len(costs))
}

// withinAmong returns what WithinCost has to return.
func withinAmong(list []tried, limit int64) []int64 {
	var indices []int64
	for _, l := range list {
		if l.cost <= limit {
			indices = append(indices, l.index)
		}
	}
	return indices
}

// orderAmong returns what BoundOrder has to return.
func orderAmong(list []tried) []int64 {
	ordered := slices.SortedFunc(slices.Values(list), func(k, l tried) int {
		return cmp.Or(cmp.Compare(k.bound, l.bound), cmp.Compare(k.index, l.index))
	})
	return withinAmong(ordered, greatestInt)
}

// searchesAmong returns what searchCalls has to return.
func searchesAmong(list []tried, limit int64) []any {
	nearest := nearestAmong(list)
	pruned := all(nearest[0], nearest[1], matchedAmong(list), nearest[2])
	return all(nearest, pruned, all(withinAmong(list, limit), impl.OK), all(orderAmong(list), impl.OK))
}

// searchCalls are the searches of chapter 10.
func searchCalls(a []impl.Feat, lists [][]impl.Feat, band, limit int64) []any {
	return all(
		all(impl.NearestOf(a, lists, band)), all(impl.NearestPruned(a, lists, band)),
		all(impl.WithinCost(a, lists, band, limit)), all(impl.BoundOrder(a, lists, band)),
	)
}

// refusedSearches are the results of searchCalls with an error.
func refusedSearches(code int64) []any {
	none := []int64{}
	return all(all(0, 0, code), all(0, 0, 0, code), all(none, code), all(none, code))
}

// seqs returns a list of lists.
func seqs(lists ...[]impl.Feat) [][]impl.Feat { return lists }

// singles returns lists of one element, which differ in X only.
func singles(xs ...int64) [][]impl.Feat {
	var lists [][]impl.Feat
	for _, x := range xs {
		lists = append(lists, line(x))
	}
	return lists
}

// level returns so many equal features.
func level(count int, f impl.Feat) []impl.Feat { return slices.Repeat([]impl.Feat{f}, count) }

// driftingFeats returns so many features that lie near each other, so that lists differ in where they are.
func driftingFeats(s *source, count int64) []impl.Feat {
	f := randomFeats(s, 1)[0]
	var list []impl.Feat
	for range count {
		f.X, f.Y = min(max(f.X+s.below(9)-4, 0), 255), min(max(f.Y+s.below(9)-4, 0), 255)
		list = append(list, f)
	}
	return list
}

// manyLists returns up to MaxLists lists of lengths that are near to one; a list is often there twice.
func manyLists(s *source, length, most int64, some func(s *source, count int64) []impl.Feat) [][]impl.Feat {
	var lists [][]impl.Feat
	for range s.below(most + 1) {
		if len(lists) > 0 && s.below(4) == 0 {
			lists = append(lists, lists[s.below(int64(len(lists)))])
			continue
		}
		count := length - 3 + s.below(7)
		lists = append(lists, some(s, min(max(count, 1), impl.MaxSeq)))
	}
	return lists
}

// allSmallSeqs returns all sequences of at most so many features of three sorts.
func allSmallSeqs(most int) [][]impl.Feat {
	lists := [][]impl.Feat{{}}
	for at := 0; len(lists[at]) < most; at++ {
		for _, f := range feats(0, 3, 0, 2, 3, 1, 5, 0, 6) {
			lists = append(lists, append(slices.Clone(lists[at]), f))
		}
	}
	return lists[1:]
}

// envelopeLists are the lists of an envelope, by their names.
func envelopeLists(e *impl.Envelope) map[string]*[]int64 {
	return map[string]*[]int64{"LowX": &e.LowX, "HighX": &e.HighX, "LowY": &e.LowY, "HighY": &e.HighY}
}

// plainEnvelope is valid; each call makes a new one.
func plainEnvelope() impl.Envelope {
	return envelope(row(1, 20, 3), row(5, 26, 7), row(0, 10, 20), row(255, 10, 30))
}

// changedEnvelope is valid up to a change of one of its lists.
func changedEnvelope(name string, change func(list []int64) []int64) impl.Envelope {
	e := plainEnvelope()
	list := envelopeLists(&e)[name]
	*list = change(*list)
	return e
}

// wrongEnvelopes are invalid, most of them for one reason only.
func wrongEnvelopes() map[string]impl.Envelope {
	wrong := map[string]impl.Envelope{
		"nothing": {}, "four empty lists": envelope(row(), row(), row(), row()),
		"one too many": levelEnvelope(impl.MaxSeq+1, 0, 255, 0, 255), "far too many": levelEnvelope(5000, 0, 255, 0, 255),
		"fewer of X":        envelope(row(1, 2), row(5, 6), row(0, 10, 20), row(255, 10, 30)),
		"fewer of Y":        envelope(row(1, 2, 3), row(5, 6, 7), row(0, 10), row(255, 10)),
		"fewer low ones":    envelope(row(1, 2), row(5, 6, 7), row(0, 10), row(255, 10, 30)),
		"fewer high ones":   envelope(row(1, 2, 3), row(5, 6), row(0, 10, 20), row(255, 10)),
		"X and no Y":        envelope(row(1), row(5), row(), row()),
		"Y and no X":        envelope(row(), row(), row(1), row(5)),
		"too many of Y":     envelope(row(1), row(5), make([]int64, impl.MaxSeq+1), make([]int64, impl.MaxSeq+1)),
		"too many of X":     envelope(make([]int64, impl.MaxSeq+1), make([]int64, impl.MaxSeq+1), row(1), row(5)),
		"X exchanged":       envelope(row(5), row(1), row(1), row(5)),
		"Y exchanged":       envelope(row(1), row(5), row(5), row(1)),
		"X is outside":      levelEnvelope(3, 256, 256, 1, 1),
		"Y is outside":      levelEnvelope(3, 1, 1, 256, 256),
		"X is negative":     levelEnvelope(3, -1, -1, 1, 1),
		"Y is negative":     levelEnvelope(3, 1, 1, -1, -1),
		"X from end to end": levelEnvelope(3, leastInt, greatestInt, 1, 1),
		"Y from end to end": levelEnvelope(3, 1, 1, leastInt, greatestInt),
	}
	for _, name := range []string{"LowX", "HighX", "LowY", "HighY"} {
		wrong[name+" is nil"] = changedEnvelope(name, func([]int64) []int64 { return nil })
		wrong[name+" is shorter"] = changedEnvelope(name, func(list []int64) []int64 { return list[:2] })
		wrong[name+" is longer"] = changedEnvelope(name, func(list []int64) []int64 { return append(list, list[2]) })
		wrong[name+" is the longest"] = changedEnvelope(name, func(list []int64) []int64 { return slices.Repeat(list, 24) })
		for at := range 3 {
			place := name + " " + impl.Decimal(int64(at))
			for _, n := range append(extremes(), -1, impl.NormSide+1) {
				wrong[place+" is "+impl.Decimal(n)] = changedEnvelope(name, func(list []int64) []int64 {
					list[at] = n
					return list
				})
			}
		}
	}
	for at := range 3 {
		x, y := plainEnvelope(), plainEnvelope()
		x.LowX[at] = x.HighX[at] + 1
		wrong["LowX above HighX at "+impl.Decimal(int64(at))] = x
		// HighY may be 255, so that a greater LowY would be wrong for two reasons.
		y.LowY[at], y.HighY[at] = 8, 7
		wrong["LowY above HighY at "+impl.Decimal(int64(at))] = y
	}
	return wrong
}

// refusedLists checks the searches with lists of which one is no sequence, in all places.
func refusedLists(t *testing.T, call func(a []impl.Feat, lists [][]impl.Feat) []any, want []any) {
	t.Helper()
	good := line(1, 2, 3)
	for reason, list := range wrongSeqs() {
		is(t, "a: "+reason, call(list, seqs(good)), want)
		is(t, "a without lists: "+reason, call(list, nil), want)
		is(t, "the only list: "+reason, call(good, seqs(list)), want)
		is(t, "the first list: "+reason, call(good, seqs(list, good, good)), want)
		is(t, "the middle list: "+reason, call(good, seqs(good, list, good)), want)
		is(t, "the last list: "+reason, call(good, seqs(good, good, list)), want)
		is(t, "a list of another length: "+reason, call(level(40, feat(1, 2, 3)), seqs(level(40, feat(1, 2, 3)), list)), want)
		is(t, "the last one of the most: "+reason, call(good, append(slices.Repeat(seqs(good), impl.MaxLists-1), list)), want)
		is(t, "all: "+reason, call(list, seqs(list, list)), want)
	}
}
