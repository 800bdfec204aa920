package tests

import (
	"slices"
	"strconv"
	"testing"

	"loop.example/g00918/impl"
)

// resampleCalls are calls of all functions of chapter 6.
func resampleCalls(s impl.Stroke, list, other []impl.Spot, n, m int64) []any {
	places, placesCode := impl.SpotsOf(s)
	arcs, arcsCode := impl.ArcsOf(s)
	at, atCode := impl.SpotAt(s, n, m)
	resampled, resampledCode := impl.Resample(s, n)
	back, backCode := impl.ReverseStroke(s)
	thin, thinCode := impl.ThinStroke(s, n)
	smooth, smoothCode := impl.SmoothStroke(s)
	pause, pauseCode := impl.LongestPause(s)
	speeds, speedsCode := impl.SpeedsOf(s)
	return all(
		impl.SameSpots(list, other), places, placesCode, arcs, arcsCode, at, atCode, resampled, resampledCode,
		back, backCode, thin, thinCode, smooth, smoothCode, pause, pauseCode, speeds, speedsCode,
	)
}

// TestPurityOfResampling is for promise 1: calls return, leave their arguments as they are, and repeat their results.
func TestPurityOfResampling(t *testing.T) {
	s := source(81)
	numbers := append(extremes(), 0, 1, 2, -1, 5, impl.MaxFeats, impl.MaxFeats+1, impl.MaxStep, impl.MaxStep+1)
	lists := [][]impl.Spot{nil, {}, spots(1, 2), spots(1, 2, 3, 4), spots(leastInt, greatestInt)}
	for at, p := range anyStrokes() {
		for range 10 {
			n, m := numbers[s.below(int64(len(numbers)))], numbers[s.below(int64(len(numbers)))]
			wide, list, other := roomy(p), roomy(lists[s.below(5)]), roomy(lists[s.below(5)])
			before := memoryOf(wide, list, other)
			first := resampleCalls(wide, list, other, n, m)
			is(t, "arguments of stroke "+strconv.Itoa(at), memoryOf(wide, list, other), before)
			is(t, "equal results for stroke "+strconv.Itoa(at), resampleCalls(roomy(p), roomy(list), roomy(other), n, m), first)
		}
	}
}

// resampleResults are the slices and strokes that the functions of chapter 6 return.
func resampleResults(s impl.Stroke) map[string]any {
	places, _ := impl.SpotsOf(s)
	arcs, _ := impl.ArcsOf(s)
	resampled, _ := impl.Resample(s, 5)
	back, _ := impl.ReverseStroke(s)
	thin, _ := impl.ThinStroke(s, 0)
	thinner, _ := impl.ThinStroke(s, 3)
	smooth, _ := impl.SmoothStroke(s)
	speeds, _ := impl.SpeedsOf(s)
	return map[string]any{
		"SpotsOf": places, "ArcsOf": arcs, "Resample": resampled, "ReverseStroke": back, "ThinStroke by 0": thin,
		"ThinStroke by 3": thinner, "SmoothStroke": smooth, "SpeedsOf": speeds,
	}
}

// TestResamplingResultsAreNew is for promise 1: a result shares no memory with an argument or with another result.
func TestResamplingResultsAreNew(t *testing.T) {
	s := source(82)
	for _, p := range manyTimedPaths(&s) {
		wide := roomy(p)
		first, again := resampleResults(wide), resampleResults(wide)
		for name, result := range first {
			is(t, name, all(sharesMemory(result, wide, again[name]), sharesMemory(result, inOrder(again)...)), all(false, false))
		}
	}
}

// TestResultsWhenStrokesAreOverwritten is for promise 1, with what can be seen of it from without.
func TestResultsWhenStrokesAreOverwritten(t *testing.T) {
	for _, p := range []impl.Stroke{path(7, 8), path(0, 0, 10, 0, 10, 10, 3, 3), atMostTimes()} {
		wide := roomy(p)
		back, _ := impl.ReverseStroke(wide)
		thin, _ := impl.ThinStroke(wide, 0)
		smooth, _ := impl.SmoothStroke(wide)
		want := roomy([]impl.Stroke{back, thin, smooth})
		scribbleStroke(wide)
		is(t, "results when the argument is overwritten", []impl.Stroke{back, thin, smooth}, want)
		wide = roomy(p)
		before := memoryOf(wide)
		for _, call := range []func(impl.Stroke) (impl.Stroke, int64){impl.ReverseStroke, impl.SmoothStroke} {
			result, _ := call(wide)
			scribbleStroke(result)
		}
		result, _ := impl.ThinStroke(wide, 0)
		scribbleStroke(result)
		is(t, "the argument when results are overwritten", memoryOf(wide), before)
	}
}

// TestResampledPlaces is for promise 6: places begin and end with the stroke and lie in its box.
func TestResampledPlaces(t *testing.T) {
	s := source(83)
	for range 5 {
		for _, p := range manyTimedPaths(&s) {
			box, _ := impl.BoxOfStroke(p)
			places, _ := impl.SpotsOf(p)
			for n := int64(2); n <= impl.MaxFeats; n++ {
				list, code := impl.Resample(p, n)
				is(t, "as many as asked", all(int64(len(list)), code), all(n, impl.OK))
				is(t, "the ends", all(list[0], list[n-1]), all(places[0], places[len(places)-1]))
				for _, q := range list {
					if q.X < box.X1 || q.X > box.X2 || q.Y < box.Y1 || q.Y > box.Y2 {
						t.Fatal("outside of the box", box, ":", q)
					}
				}
			}
		}
	}
}

// TestPlacesOfPartsInTheBox is for promise 6, with parts of each number of them.
func TestPlacesOfPartsInTheBox(t *testing.T) {
	s := source(84)
	for _, p := range manyTimedPaths(&s) {
		box, _ := impl.BoxOfStroke(p)
		for range 200 {
			parts := 1 + s.below(impl.MaxStep)
			part := s.below(parts + 1)
			q, code := impl.SpotAt(p, part, parts)
			if code != impl.OK || q.X < box.X1 || q.X > box.X2 || q.Y < box.Y1 || q.Y > box.Y2 {
				t.Fatal("outside of the box", box, ":", q, code)
			}
		}
		first, last := p.Points[0], p.Points[len(p.Points)-1]
		for _, parts := range []int64{1, 2, 17, impl.MaxStep} {
			is(t, "the first place", all(impl.SpotAt(p, 0, parts)), all(spot(first.X, first.Y), impl.OK))
			is(t, "the last place", all(impl.SpotAt(p, parts, parts)), all(spot(last.X, last.Y), impl.OK))
		}
	}
}

// TestResampledByEqualParts has the same places at parts that are the same, and in reverse order backwards.
func TestResampledByEqualParts(t *testing.T) {
	s := source(85)
	for _, p := range manyTimedPaths(&s) {
		back, _ := impl.ReverseStroke(p)
		for n := int64(2); n <= impl.MaxFeats; n++ {
			list, _ := impl.Resample(p, n)
			for part, q := range list {
				is(t, "the same part", all(impl.SpotAt(p, int64(part)*7, (n-1)*7)), all(q, impl.OK))
			}
			slices.Reverse(list)
			is(t, "backwards", all(impl.Resample(back, n)), all(list, impl.OK))
		}
	}
}

// TestReversedStrokes is for promise 5, where it meets chapter 6.
func TestReversedStrokes(t *testing.T) {
	s := source(86)
	some := 0
	for range 5 {
		for _, p := range manyTimedPaths(&s) {
			back, code := impl.ReverseStroke(p)
			is(t, "reversed", all(impl.ValidStroke(back), code), all(true, impl.OK))
			is(t, "and back", all(impl.ReverseStroke(back)), all(p, impl.OK))
			area, _ := impl.StrokeArea(p)
			is(t, "the opposite area", all(impl.StrokeArea(back)), all(-area, impl.OK))
			is(t, "the same length", all(impl.StrokeLength(back)), all(impl.StrokeLength(p)))
			is(t, "the same box", all(impl.BoxOfStroke(back)), all(impl.BoxOfStroke(p)))
			some += int(max(sign(area), -sign(area)))
		}
	}
	is(t, "some strokes have an area", some > 100, true)
}

// TestChangedStrokesAreValid has what remains of a stroke that is changed.
func TestChangedStrokesAreValid(t *testing.T) {
	s := source(87)
	for _, p := range manyTimedPaths(&s) {
		smooth, _ := impl.SmoothStroke(p)
		is(t, "smoothed", all(impl.ValidStroke(smooth), len(smooth.Points)), all(true, len(p.Points)))
		is(t, "not thinned", all(impl.ThinStroke(p, 0)), all(p, impl.OK))
		for _, step := range []int64{1, 7, 60, impl.MaxStep} {
			thin, _ := impl.ThinStroke(p, step)
			is(t, "thinned", impl.ValidStroke(thin), true)
			is(t, "thinned twice", all(impl.ThinStroke(thin, step)), all(thin, impl.OK))
		}
	}
}

// TestResamplingOfMovedStrokes moves strokes, and so their places.
func TestResamplingOfMovedStrokes(t *testing.T) {
	s := source(88)
	for range 100 {
		p := randomPath(&s, 50, 1+s.below(20))
		dx, dy := s.below(4000), s.below(4000)
		moved, _ := impl.MoveInk(ink(p), dx, dy)
		list, _ := impl.Resample(p, 9)
		for at := range list {
			list[at] = spot(list[at].X+dx, list[at].Y+dy)
		}
		is(t, "moved", all(impl.Resample(moved.Strokes[0], 9)), all(list, impl.OK))
		is(t, "the same arcs", all(impl.ArcsOf(moved.Strokes[0])), all(impl.ArcsOf(p)))
	}
}
