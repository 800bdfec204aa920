package tests

import (
	"slices"
	"strconv"
	"testing"

	"loop.example/g00918/impl"
)

// geometryCalls are calls of all functions of chapter 5.
func geometryCalls(s, other impl.Stroke, points [4]impl.Point, n, m int64) []any {
	a, b, c, d := points[0], points[1], points[2], points[3]
	root, rootCode := impl.RootOf(n)
	segment, segmentCode := impl.SegmentLength(a, b)
	length, lengthCode := impl.StrokeLength(s)
	direction, directionCode := impl.DirectionOf(n, m)
	directions, directionsCode := impl.DirectionsOf(s)
	bend, bendCode := impl.BendOf(s)
	turn, turnCode := impl.TurnOf(a, b, c)
	count, countCode := impl.CrossingCount(s, other)
	area, areaCode := impl.StrokeArea(s)
	straight, straightCode := impl.StraightOf(s)
	nearest, nearestCode := impl.NearestPoint(s, d)
	return all(
		root, rootCode, segment, segmentCode, length, lengthCode, direction, directionCode, directions, directionsCode,
		bend, bendCode, turn, turnCode, impl.SegmentsMeet(a, b, c, d), count, countCode, area, areaCode,
		straight, straightCode, nearest, nearestCode,
	)
}

// anyStrokes are valid and invalid strokes.
func anyStrokes() []impl.Stroke {
	s := source(60)
	return slices.Concat(manyPaths(&s), sampleStrokes(), inOrder(wrongStrokes()))
}

// TestPurityOfGeometry is for promise 1: calls return, leave their arguments as they are, and repeat their results.
func TestPurityOfGeometry(t *testing.T) {
	s := source(61)
	points := append(edgePoints(), inOrder(wrongPoints())...)
	for range 30 {
		points = append(points, place(s.below(9), s.below(9)))
	}
	numbers := []int64{0, 1, -1, 5, -7, 24, 25, impl.MaxCoord, -impl.MaxCoord, impl.MaxCoord + 1, impl.MaxSquare, impl.MaxSquare + 1, leastInt, greatestInt}
	anyPoint := func() impl.Point { return points[s.below(int64(len(points)))] }
	anyNumber := func() int64 { return numbers[s.below(int64(len(numbers)))] }
	strokes := anyStrokes()
	for at, one := range strokes {
		for range 10 {
			other := strokes[s.below(int64(len(strokes)))]
			ends, n, m := [4]impl.Point{anyPoint(), anyPoint(), anyPoint(), anyPoint()}, anyNumber(), anyNumber()
			wide, wideOther := roomy(one), roomy(other)
			before := memoryOf(wide, wideOther)
			first := geometryCalls(wide, wideOther, ends, n, m)
			is(t, "arguments of stroke "+strconv.Itoa(at), memoryOf(wide, wideOther), before)
			is(t, "equal results for stroke "+strconv.Itoa(at), geometryCalls(roomy(one), roomy(other), ends, n, m), first)
		}
	}
}

// TestGeometryOfOneStrokeTwice gives the same memory as both arguments.
func TestGeometryOfOneStrokeTwice(t *testing.T) {
	for _, s := range anyStrokes() {
		wide := roomy(s)
		before := memoryOf(wide)
		count, code := impl.CrossingCount(wide, wide)
		is(t, "the arguments", memoryOf(wide), before)
		is(t, "as with a copy", all(count, code), all(impl.CrossingCount(roomy(s), roomy(s))))
	}
}

// TestGeometryResultsAreNew is for promise 1: a result shares no memory with an argument or with another result.
func TestGeometryResultsAreNew(t *testing.T) {
	s := source(62)
	for _, p := range manyPaths(&s) {
		wide := roomy(p)
		before := memoryOf(wide)
		list, _ := impl.DirectionsOf(wide)
		again, _ := impl.DirectionsOf(wide)
		is(t, "DirectionsOf", sharesMemory(list, wide, again), false)
		want := roomy(again)
		for at := range list[:cap(list)] {
			list[:cap(list)][at] = -9
		}
		is(t, "the argument and another result when one is overwritten", all(memoryOf(wide), again), all(before, want))
		is(t, "a result that comes later", all(impl.DirectionsOf(wide)), all(want, impl.OK))
	}
}

// TestLengthsInBothDirections is for promise 5.
func TestLengthsInBothDirections(t *testing.T) {
	s := source(63)
	for range 20000 {
		side := int64(2) << s.below(12)
		a, b := point(s.below(side), s.below(side), s.below(9)), point(s.below(side), s.below(side), s.below(9))
		there, code := impl.SegmentLength(a, b)
		back, backCode := impl.SegmentLength(b, a)
		is(t, "a segment", all(there, code), all(back, impl.OK))
		is(t, "and its code", backCode, impl.OK)
	}
	for range 20 {
		for _, p := range manyPaths(&s) {
			length, code := impl.StrokeLength(p)
			is(t, "a stroke", all(length, code), all(impl.StrokeLength(backwards(p))))
			is(t, "its code", code, impl.OK)
			is(t, "how straight it is", all(impl.StraightOf(p)), all(impl.StraightOf(backwards(p))))
			is(t, "the sum of its segments", length, segmentSum(p))
		}
	}
}

// segmentSum adds the lengths of the segments of a stroke, each from its end to its beginning.
func segmentSum(s impl.Stroke) int64 {
	sum := int64(0)
	for at, p := range s.Points[1:] {
		length, _ := impl.SegmentLength(p, s.Points[at])
		sum += length
	}
	return sum
}

// TestOppositeDirections is for promise 5: it has one of each pair of opposite differences.
func TestOppositeDirections(t *testing.T) {
	for dx := int64(0); dx <= impl.MaxCoord; dx++ {
		for dy := int64(-impl.MaxCoord); dy <= impl.MaxCoord; dy++ {
			if dx == 0 && dy == 0 {
				continue
			}
			d, code := impl.DirectionOf(dx, dy)
			opposite, oppositeCode := impl.DirectionOf(-dx, -dy)
			if opposite != (d+4)%8 || d < 0 || d >= impl.Directions || code != impl.OK || oppositeCode != impl.OK {
				t.Fatalf("the directions of %d, %d and its opposite: %d, %d", dx, dy, d, opposite)
			}
			if !fitsBothWays(d, dx, dy) {
				t.Fatalf("the direction of %d, %d is not %d", dx, dy, d)
			}
		}
	}
}

// fitsBothWays states the two inequations of the document with the remainder of the direction alone.
func fitsBothWays(d, dx, dy int64) bool {
	square := dx*dx + dy*dy + 2*max(dx*dy, -dx*dy)
	return (d%4 == 0) == (square <= 2*dx*dx) && (d%4 == 2) == (square <= 2*dy*dy)
}

// TestOppositeDirectionsOfStrokes is for promise 5: a stroke backwards has all directions in reverse, each the opposite one.
func TestOppositeDirectionsOfStrokes(t *testing.T) {
	s := source(64)
	for _, p := range manyPaths(&s) {
		list, code := impl.DirectionsOf(p)
		var opposite []int64
		for at := range list {
			opposite = append(opposite, (list[len(list)-1-at]+4)%8)
		}
		is(t, "backwards", all(impl.DirectionsOf(backwards(p))), all(opposite, code))
	}
}

// TestCrossingsFromBothSides is for promise 5.
func TestCrossingsFromBothSides(t *testing.T) {
	s := source(65)
	paths := manyPaths(&s)
	some := 0
	for at, one := range paths {
		for _, other := range paths[:at+1] {
			count, code := impl.CrossingCount(one, other)
			is(t, "exchanged", all(count, code), all(impl.CrossingCount(other, one)))
			is(t, "backwards", all(count, code), all(impl.CrossingCount(one, backwards(other))))
			is(t, "made of its segments", count, crossingSum(one, other))
			is(t, "code", code, impl.OK)
			some += int(min(1, count))
		}
	}
	is(t, "some strokes cross", some > 1000, true)
}

// crossingSum counts the crossings of a stroke with each segment of the other one.
func crossingSum(s, other impl.Stroke) int64 {
	sum := int64(0)
	for at := range other.Points[1:] {
		count, _ := impl.CrossingCount(stroke(other.Points[at:at+2]...), s)
		sum += count
	}
	return sum
}

// TestGeometryOfMovedStrokes moves strokes, which changes nothing that is measured.
func TestGeometryOfMovedStrokes(t *testing.T) {
	s := source(66)
	for range 100 {
		one, other := randomPath(&s, 50, 1+s.below(20)), randomPath(&s, 50, 1+s.below(20))
		dx, dy := s.below(4000), s.below(4000)
		two, _ := impl.MoveInk(ink(one), dx, dy)
		more, _ := impl.MoveInk(ink(other), dx, dy)
		p, q := place(s.below(50), s.below(50)), place(s.below(50), s.below(50))
		ends := [4]impl.Point{p, q, q, p}
		moved := [4]impl.Point{place(p.X+dx, p.Y+dy), place(q.X+dx, q.Y+dy), place(q.X+dx, q.Y+dy), place(p.X+dx, p.Y+dy)}
		is(t, "at another place", geometryCalls(two.Strokes[0], more.Strokes[0], moved, 5, 6), geometryCalls(one, other, ends, 5, 6))
	}
}
