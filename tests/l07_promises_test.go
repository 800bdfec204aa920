package tests

import (
	"strconv"
	"testing"

	"loop.example/g00918/impl"
)

// normalCalls are calls of all functions of chapter 7.
func normalCalls(i impl.Ink, list []impl.Spot, b impl.Box, n, m int64) []any {
	box, boxCode := impl.BoxOfSpots(list)
	normal, normalCode := impl.NormalSpots(list, b)
	slant, slantCode := impl.SlantOf(i)
	straight, straightCode := impl.StraightenInk(i, n, m)
	base, baseCode := impl.BaseLineOf(i)
	height, heightCode := impl.MiddleHeight(i)
	center, centerCode := impl.CenterOf(i)
	fitting, fittingCode := impl.FitInk(i, n)
	return all(
		box, boxCode, normal, normalCode, slant, slantCode, straight, straightCode, base, baseCode,
		height, heightCode, center, centerCode, fitting, fittingCode,
	)
}

// TestPurityOfNormalization is for promise 1: calls return, leave their arguments as they are, and repeat their results.
func TestPurityOfNormalization(t *testing.T) {
	s := source(97)
	numbers := append(extremes(), 0, 1, 2, -1, 80, 256, -256, 257, -257, impl.MaxCoord, impl.MaxCoord+1)
	lists := [][]impl.Spot{nil, {}, spots(1, 2), spots(1, 2, 3, 4, 3, 4), spots(leastInt, greatestInt)}
	boxes := append(inOrder(wrongBoxes()), boxOf(1, 2, 1, 2), boxOf(0, 0, 5, 4), boxOf(0, 0, impl.MaxCoord, impl.MaxCoord))
	inks := append(append(manyInks(&s), sampleInks()...), inOrder(wrongInks())...)
	for at, i := range inks {
		for range 8 {
			n, m := numbers[s.below(int64(len(numbers)))], numbers[s.below(int64(len(numbers)))]
			b := boxes[s.below(int64(len(boxes)))]
			wide, list := roomy(i), roomy(lists[s.below(5)])
			before := memoryOf(wide, list)
			first := normalCalls(wide, list, b, n, m)
			is(t, "arguments of ink "+strconv.Itoa(at), memoryOf(wide, list), before)
			is(t, "equal results for ink "+strconv.Itoa(at), normalCalls(roomy(i), roomy(list), b, n, m), first)
		}
	}
}

// TestNormalizationResultsAreNew is for promise 1: a result shares no memory with an argument, another result or itself.
func TestNormalizationResultsAreNew(t *testing.T) {
	s := source(98)
	results := func(i impl.Ink, list []impl.Spot, b impl.Box) map[string]any {
		normal, _ := impl.NormalSpots(list, b)
		straight, _ := impl.StraightenInk(i, 1, 5)
		same, _ := impl.StraightenInk(i, 0, 0)
		fitting, _ := impl.FitInk(i, 80)
		return map[string]any{"NormalSpots": normal, "StraightenInk": straight, "StraightenInk by 0": same, "FitInk": fitting}
	}
	for _, i := range append(manyInks(&s), sampleInks()...) {
		b := randomBox(&s)
		wide, list := roomy(i), roomy(inBox(&s, b, 3))
		first, again := results(wide, list, b), results(wide, list, b)
		for name, result := range first {
			is(t, name, all(sharesMemory(result, wide, list), sharesMemory(result, inOrder(again)...)), all(false, false))
		}
	}
}

// TestNormalizationOfSharedMemory gives ink whose strokes are parts of one slice.
func TestNormalizationOfSharedMemory(t *testing.T) {
	points := strokeFrom(0, 6).Points
	shared := ink(impl.Stroke{Points: points[:2]}, impl.Stroke{Points: points[2:4]}, impl.Stroke{Points: points[4:]})
	apart := roomy(shared)
	for _, n := range []int64{0, 1, 80, -3} {
		before := memoryOf(shared)
		is(t, "as if apart", normalCalls(shared, nil, impl.Box{}, n, 300), normalCalls(apart, nil, impl.Box{}, n, 300))
		is(t, "the points stay", memoryOf(shared), before)
	}
}

// TestNormalPlacesOfMovedBoxes is for promise 7: normalized places do not depend on where the box is.
func TestNormalPlacesOfMovedBoxes(t *testing.T) {
	s := source(99)
	for range 3000 {
		b := randomBox(&s)
		list := inBox(&s, b, s.below(9))
		normal, code := impl.NormalSpots(list, b)
		is(t, "normal", code, impl.OK)
		for range 3 {
			dx, dy := s.below(impl.MaxCoord-b.X2+b.X1+1)-b.X1, s.below(impl.MaxCoord-b.Y2+b.Y1+1)-b.Y1
			var moved []impl.Spot
			for _, p := range list {
				moved = append(moved, spot(p.X+dx, p.Y+dy))
			}
			other := boxOf(b.X1+dx, b.Y1+dy, b.X2+dx, b.Y2+dy)
			is(t, "at another place", all(impl.NormalSpots(moved, other)), all(normal, impl.OK))
		}
	}
}

// TestNormalPlacesInTheSquare has all places within NormSide, and those at the ends of the greater side at its ends.
func TestNormalPlacesInTheSquare(t *testing.T) {
	s := source(100)
	for range 3000 {
		b := randomBox(&s)
		normal, _ := impl.NormalSpots(inBox(&s, b, 9), b)
		for _, p := range normal {
			if p.X < 0 || p.X > impl.NormSide || p.Y < 0 || p.Y > impl.NormSide {
				t.Fatal("outside of the square", b, ":", p)
			}
		}
		if b.X2-b.X1 >= b.Y2-b.Y1 && b.X2 > b.X1 {
			is(t, "from left to right", all(normal[0].X, normal[3].X), all(int64(0), int64(impl.NormSide)))
		}
		if b.Y2-b.Y1 >= b.X2-b.X1 && b.Y2 > b.Y1 {
			is(t, "from above to below", all(normal[0].Y, normal[3].Y), all(int64(0), int64(impl.NormSide)))
		}
	}
}

// TestFittingTwice is for promise 7: fitting twice changes nothing.
func TestFittingTwice(t *testing.T) {
	s := source(101)
	for _, i := range manyInks(&s) {
		for _, side := range []int64{1, 2, 3, 7, 80, 255, impl.MaxCoord, 1 + s.below(impl.MaxCoord), 1 + s.below(50)} {
			once, code := impl.FitInk(i, side)
			is(t, "fitting", all(impl.ValidInk(once), code), all(true, impl.OK))
			is(t, "twice", all(impl.FitInk(once, side)), all(once, impl.OK))
			box, _ := impl.BoxOfInk(once)
			is(t, "at the corner", all(box.X1, box.Y1), all(int64(0), int64(0)))
			if b := boxAround(placesOf(i)); b.X1 < b.X2 || b.Y1 < b.Y2 {
				is(t, "as great as asked", max(box.X2, box.Y2), side)
			} else {
				is(t, "one place", box, impl.Box{})
			}
		}
	}
}

// TestNormalizationOfMovedInk moves ink, which changes nothing but places.
func TestNormalizationOfMovedInk(t *testing.T) {
	s := source(102)
	for _, i := range manyInks(&s) {
		b := boxAround(placesOf(i))
		dx, dy := s.below(impl.MaxCoord-b.X2+b.X1+1)-b.X1, s.below(impl.MaxCoord-b.Y2+b.Y1+1)-b.Y1
		moved, code := impl.MoveInk(i, dx, dy)
		is(t, "moved", code, impl.OK)
		is(t, "fitting", all(impl.FitInk(moved, 100)), all(impl.FitInk(i, 100)))
		is(t, "the slant", all(impl.SlantOf(moved)), all(impl.SlantOf(i)))
		is(t, "the middle height", all(impl.MiddleHeight(moved)), all(impl.MiddleHeight(i)))
		base, _ := impl.BaseLineOf(i)
		is(t, "the base line", all(impl.BaseLineOf(moved)), all(base+dy, impl.OK))
		center, _ := impl.CenterOf(i)
		is(t, "the center", all(impl.CenterOf(moved)), all(spot(center.X+dx, center.Y+dy), impl.OK))
	}
}

// TestPlacesOfInkAndSpots has the same box by points and by places.
func TestPlacesOfInkAndSpots(t *testing.T) {
	s := source(103)
	for _, i := range manyInks(&s) {
		list := placesOf(i)
		is(t, "the box", all(impl.BoxOfSpots(list)), all(impl.BoxOfInk(i)))
		slant, code := impl.SlantOf(i)
		if code == impl.OK {
			is(t, "a slant that can be taken away", slant >= -impl.SlantUnit && slant <= impl.SlantUnit, true)
		}
		box, _ := impl.BoxOfInk(i)
		center, _ := impl.CenterOf(i)
		is(t, "the center is in the box", box.X1 <= center.X && center.X <= box.X2 && box.Y1 <= center.Y && center.Y <= box.Y2, true)
	}
}

// TestStraightenedInkIsUpright takes away the slant of lines that lean.
func TestStraightenedInkIsUpright(t *testing.T) {
	for lean := int64(-40); lean <= 40; lean++ {
		i := inkOf(path(100+lean, 0, 100, 41, 100+lean, 0), path(200+lean, 0, 200, 41))
		slant, code := impl.SlantOf(i)
		is(t, "a slant", code, impl.OK)
		upright, code := impl.StraightenInk(i, slant, 41)
		is(t, "upright", all(upright, code), all(inkOf(path(100, 0, 100, 41, 100, 0), path(200, 0, 200, 41)), impl.OK))
	}
}
