package tests

import (
	"slices"
	"testing"

	"loop.example/g00918/impl"
)

// segmentCalls are calls of all functions of chapter 14.
func segmentCalls(i impl.Ink, one impl.Stroke, g impl.Group, n int64) []any {
	return all(
		impl.IsDot(one), all(impl.HomeOf(i, n)), all(impl.OrderOf(i)), all(impl.GroupsOf(i)), all(impl.InkOfGroup(i, g)),
		all(impl.GapAt(i, n)), all(impl.SplitByGaps(i, n)), impl.GroupText(g),
	)
}

// TestPurityOfSegmentation is for promise 1: calls return, leave their arguments as they are, and repeat their results.
func TestPurityOfSegmentation(t *testing.T) {
	s := source(430)
	inks, wrong := append(manyWritings(&s), sampleInks()...), inOrder(wrongInks())
	strokes := append(anyStrokes(), sampleStrokes()...)
	numbers := append(extremes(), 0, 1, 2, 3, 5, 15, impl.MaxStrokes, -1, 100, -100, impl.MaxCoord, -impl.MaxCoord, impl.MaxCoord+1, -impl.MaxCoord-1)
	for range 1500 {
		i, one := inks[s.below(int64(len(inks)))], strokes[s.below(int64(len(strokes)))]
		if s.below(8) == 0 {
			i = wrong[s.below(int64(len(wrong)))]
		}
		g, n := group(s.below(5)-1, s.below(18)), numbers[s.below(int64(len(numbers)))]
		if s.below(8) == 0 {
			g = group(numbers[s.below(int64(len(numbers)))], numbers[s.below(int64(len(numbers)))])
		}
		first, second := roomy(i), roomy(one)
		before := memoryOf(first, second)
		results := segmentCalls(first, second, g, n)
		is(t, "arguments", memoryOf(first, second), before)
		is(t, "equal results", segmentCalls(roomy(i), roomy(one), g, n), results)
	}
}

// TestSegmentationWithExtremes has numbers near the ends of int64 in all places of a call.
func TestSegmentationWithExtremes(t *testing.T) {
	i := theInk()
	for _, n := range extremes() {
		is(t, "an index", all(impl.HomeOf(i, n)), all(0, impl.ErrRange))
		is(t, "a place", all(impl.GapAt(i, n)), all(0, impl.ErrRange))
		is(t, "a gap", all(impl.SplitByGaps(i, n)), all(groups(), impl.ErrRange))
		for _, m := range extremes() {
			is(t, "a group", all(impl.InkOfGroup(i, group(n, m))), all(impl.Ink{}, impl.ErrRange))
			bad := stroke(point(n, m, 0), point(m, n, 1))
			is(t, "a stroke", impl.IsDot(bad), false)
			is(t, "ink", segmentCalls(ink(bad), bad, group(0, 1), 0), all(
				false, all(0, impl.ErrInvalid), all(row(), impl.ErrInvalid), all(groups(), impl.ErrInvalid), all(impl.Ink{}, impl.ErrInvalid),
				all(0, impl.ErrInvalid), all(groups(), impl.ErrInvalid), "0-1",
			))
		}
	}
}

// resultsOfSegments are results with memory of chapter 14, by their names.
func resultsOfSegments(i impl.Ink) map[string]any {
	count := int64(len(i.Strokes))
	results := map[string]any{
		"OrderOf": first(impl.OrderOf(i)), "GroupsOf": first(impl.GroupsOf(i)), "SplitByGaps": first(impl.SplitByGaps(i, 20)),
		"SplitByGaps, all": first(impl.SplitByGaps(i, -4095)), "InkOfGroup, all": first(impl.InkOfGroup(i, group(0, count))),
	}
	for at := range count {
		results["InkOfGroup "+impl.Decimal(at)] = first(impl.InkOfGroup(i, group(at, min(at+2, count))))
	}
	return results
}

// TestSegmentResultsAreNew is for promise 1: a result shares no memory with an argument or with another result.
func TestSegmentResultsAreNew(t *testing.T) {
	s := source(431)
	points := strokeFrom(0, 6).Points
	shared := ink(impl.Stroke{Points: points[:2]}, impl.Stroke{Points: points[2:4]}, impl.Stroke{Points: points[4:]})
	for at, i := range manyWritings(&s) {
		if at%4 > 0 {
			continue
		}
		i = roomy(i)
		results, again := resultsOfSegments(i), resultsOfSegments(i)
		for name, result := range results {
			is(t, name, all(sharesMemory(result, i), sharesMemory(result, inOrder(again)...)), all(false, false))
		}
	}
	for name, result := range resultsOfSegments(shared) {
		is(t, name+" of memory that is shared", sharesMemory(result, shared), false)
	}
	is(t, "the points", points, strokeFrom(0, 6).Points)
}

// TestSegmentResultsWhenOverwritten is for promise 1, with what can be seen of it from without.
func TestSegmentResultsWhenOverwritten(t *testing.T) {
	s := source(432)
	for range 60 {
		i := roomy(randomWriting(&s, 9))
		count := int64(len(i.Strokes))
		before, want := memoryOf(i), segmentCalls(i, stroke(), group(0, count), 0)
		order, parts, split := first(impl.OrderOf(i)), first(impl.GroupsOf(i)), first(impl.SplitByGaps(i, 0))
		cut, _ := impl.InkOfGroup(i, group(0, count))
		clear(order[:cap(order)])
		clear(parts[:cap(parts)])
		clear(split[:cap(split)])
		scribble(cut)
		is(t, "the argument when the results are overwritten", memoryOf(i), before)
		is(t, "further results", segmentCalls(i, stroke(), group(0, count), 0), want)
		if count > 0 {
			cut, _ = impl.InkOfGroup(i, group(0, count))
			wantCut := roomy(cut)
			scribble(i)
			is(t, "the result when the argument is overwritten", cut, wantCut)
		}
	}
}

// TestOrderHasAllStrokesOnce is for promise 14.
func TestOrderHasAllStrokesOnce(t *testing.T) {
	s := source(433)
	for _, i := range append(manyWritings(&s), smallWritings(4)...) {
		order, code := impl.OrderOf(i)
		is(t, "so many", all(len(order), code), all(len(i.Strokes), impl.OK))
		sorted := slices.Sorted(slices.Values(order))
		for at, index := range sorted {
			is(t, "each once", index, int64(at))
		}
		last := int64(-1)
		for place, index := range order {
			home, _ := impl.HomeOf(i, index)
			if home < 0 {
				is(t, "as written", index > last, true)
				last = index
				continue
			}
			// The strokes between a home and its dot are dots of this home that were written before.
			is(t, "behind its home", home, last)
			before, _ := impl.HomeOf(i, order[place-1])
			is(t, "the stroke before is the home, or an earlier dot of it", order[place-1] == home || before == home && order[place-1] < index, true)
		}
	}
}

// TestDotsAndTheirHomes looks at each home: it is no dot, and no other stroke before the dot has more common integers.
func TestDotsAndTheirHomes(t *testing.T) {
	s := source(434)
	for _, i := range manyWritings(&s) {
		boxes := boxesIn(i)
		for at := range int64(len(i.Strokes)) {
			home, _ := impl.HomeOf(i, at)
			if home >= 0 {
				is(t, "a dot, and no dot before it", all(impl.IsDot(i.Strokes[at]), impl.IsDot(i.Strokes[home]), home < at), all(true, false, true))
			}
			for k := range at {
				if !impl.IsDot(i.Strokes[at]) || impl.IsDot(i.Strokes[k]) {
					continue
				}
				columns := columnsFor(boxes[at], boxes[k])
				switch {
				case home < 0:
					is(t, "nothing in common", columns, 0)
				case k > home:
					is(t, "fewer behind the home", columns < columnsFor(boxes[at], boxes[home]), true)
				default:
					is(t, "no more before the home", columns <= columnsFor(boxes[at], boxes[home]), true)
				}
			}
		}
	}
}

// TestGroupsCoverTheOrder is for promise 14: groups that follow one another have each stroke once.
func TestGroupsCoverTheOrder(t *testing.T) {
	s := source(435)
	for _, i := range append(manyWritings(&s), smallWritings(3)...) {
		list, _ := impl.GroupsOf(i)
		for place := range int64(len(i.Strokes)) {
			for size := range min(3, int64(len(i.Strokes))-place) {
				is(t, "each group is there", slices.Contains(list, group(place, place+size+1)), true)
			}
		}
		for _, limit := range row(-4095, -100, 0, 50, 4095) {
			parts, _ := impl.SplitByGaps(i, limit)
			end := int64(0)
			var strokes []impl.Stroke
			for _, g := range parts {
				is(t, "one behind the other", all(g.From, g.From < g.To), all(end, true))
				part, code := impl.InkOfGroup(i, g)
				is(t, "the ink of a group", all(impl.ValidInk(part), int64(len(part.Strokes)), code), all(true, g.To-g.From, impl.OK))
				strokes, end = append(strokes, part.Strokes...), g.To
				for place := max(g.From, 1); place < g.To; place++ {
					gap, _ := impl.GapAt(i, place)
					is(t, "where groups begin", gap >= limit, place == g.From)
				}
			}
			is(t, "all places", end, int64(len(i.Strokes)))
			slices.SortFunc(strokes, func(a, b impl.Stroke) int { return int(a.Points[0].T - b.Points[0].T) })
			is(t, "all strokes", strokes, i.Strokes)
		}
	}
}

// TestGroupsOfMovedInk moves ink and makes it later; nothing but its points changes.
func TestGroupsOfMovedInk(t *testing.T) {
	s := source(436)
	moves := 0
	for _, i := range manyWritings(&s) {
		moved, code := impl.MoveInk(i, s.below(400)-200, s.below(400)-200)
		if code != impl.OK {
			continue
		}
		moves++
		is(t, "the order", all(impl.OrderOf(moved)), all(impl.OrderOf(i)))
		is(t, "the groups", all(impl.GroupsOf(moved)), all(impl.GroupsOf(i)))
		is(t, "the gaps", all(impl.SplitByGaps(moved, 20)), all(impl.SplitByGaps(i, 20)))
		for at := range int64(len(i.Strokes)) {
			is(t, "the homes", all(impl.HomeOf(moved, at)), all(impl.HomeOf(i, at)))
			is(t, "a gap", all(impl.GapAt(moved, at)), all(impl.GapAt(i, at)))
		}
	}
	is(t, "some are moved", moves > 50, true)
}
