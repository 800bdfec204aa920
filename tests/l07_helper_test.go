package tests

import (
	"slices"
	"testing"

	"loop.example/g00918/impl"
)

// What follows states chapter 7 in another way, without the program's functions.

func boxOf(x1, y1, x2, y2 int64) impl.Box { return impl.Box{X1: x1, Y1: y1, X2: x2, Y2: y2} }

// inkOf returns ink with these strokes, one after the other, a millisecond from each point to the next one.
func inkOf(strokes ...impl.Stroke) impl.Ink {
	time := int64(0)
	var i impl.Ink
	for _, s := range strokes {
		var with impl.Stroke
		for _, p := range s.Points {
			with.Points = append(with.Points, point(p.X, p.Y, time))
			time++
		}
		i.Strokes = append(i.Strokes, with)
	}
	return i
}

// placesOf returns the places of all points of ink.
func placesOf(i impl.Ink) []impl.Spot {
	var list []impl.Spot
	for _, s := range i.Strokes {
		list = append(list, placesAlong(s)...)
	}
	return list
}

// movedTo returns the ink with other places, one for each point, and the same times.
func movedTo(i impl.Ink, list []impl.Spot) impl.Ink {
	var with impl.Ink
	at := 0
	for _, s := range i.Strokes {
		var made impl.Stroke
		for _, p := range s.Points {
			made.Points = append(made.Points, point(list[at].X, list[at].Y, p.T))
			at++
		}
		with.Strokes = append(with.Strokes, made)
	}
	return with
}

// columnsOf returns the X and the Y of places.
func columnsOf(list []impl.Spot) (xs, ys []int64) {
	for _, p := range list {
		xs, ys = append(xs, p.X), append(ys, p.Y)
	}
	return xs, ys
}

// boxAround returns the box of places; there is one at least.
func boxAround(list []impl.Spot) impl.Box {
	xs, ys := columnsOf(list)
	return boxOf(slices.Min(xs), slices.Min(ys), slices.Max(xs), slices.Max(ys))
}

// sideOf returns the side of a box.
func sideOf(b impl.Box) int64 { return slices.Max(row(b.X2-b.X1, b.Y2-b.Y1, 1)) }

// normalIn returns the places that NormalSpots has to return.
func normalIn(b impl.Box, list []impl.Spot) []impl.Spot {
	side := sideOf(b)
	l := lower(255-lower((b.X2-b.X1)*255, side), 2)
	t := lower(255-lower((b.Y2-b.Y1)*255, side), 2)
	var normal []impl.Spot
	for _, p := range list {
		normal = append(normal, spot(l+rounded((p.X-b.X1)*255, side), t+rounded((p.Y-b.Y1)*255, side)))
	}
	return normal
}

// slantIn returns the slant of ink, and whether there is one.
func slantIn(i impl.Ink) (int64, bool) {
	products, squares := int64(0), int64(0)
	for _, s := range i.Strokes {
		for at, q := range s.Points[1:] {
			p := s.Points[at]
			dx, dy := q.X-p.X, q.Y-p.Y
			if dy*dy > dx*dx {
				products += -dx * dy
				squares += dy * dy
			}
		}
	}
	if squares == 0 {
		return 0, false
	}
	return rounded(256*products, squares), true
}

// straightIn returns the ink that StraightenInk has to return, valid or not.
func straightIn(i impl.Ink, slant, base int64) impl.Ink {
	list := placesOf(i)
	for at, p := range list {
		list[at].X = p.X - rounded(slant*(base-p.Y), 256)
	}
	return movedTo(i, list)
}

// middleOf returns the value that as many are less than or equal to as are needed for half of them.
func middleOf(values []int64) int64 {
	for _, v := range slices.Sorted(slices.Values(values)) {
		count := 0
		for _, w := range values {
			if w <= v {
				count++
			}
		}
		if 2*count >= len(values) {
			return v
		}
	}
	return 0
}

// boxesIn returns the boxes of all strokes.
func boxesIn(i impl.Ink) []impl.Box {
	var boxes []impl.Box
	for _, s := range i.Strokes {
		boxes = append(boxes, boxAround(placesAlong(s)))
	}
	return boxes
}

// bottomsIn and heightsIn return what the medians are of.
func bottomsIn(i impl.Ink) []int64 {
	var values []int64
	for _, b := range boxesIn(i) {
		values = append(values, b.Y2)
	}
	return values
}

func heightsIn(i impl.Ink) []int64 {
	var values []int64
	for _, b := range boxesIn(i) {
		values = append(values, b.Y2-b.Y1)
	}
	return values
}

// meanIn returns the mean of all points; there is one at least.
func meanIn(i impl.Ink) impl.Spot {
	sum := func(values []int64) int64 {
		total := int64(0)
		for _, v := range values {
			total += v
		}
		return total
	}
	xs, ys := columnsOf(placesOf(i))
	return spot(rounded(sum(xs), int64(len(xs))), rounded(sum(ys), int64(len(ys))))
}

// fitIn returns the ink that FitInk has to return; there is a stroke at least.
func fitIn(i impl.Ink, side int64) impl.Ink {
	list := placesOf(i)
	b := boxAround(list)
	for at, p := range list {
		list[at] = spot(rounded((p.X-b.X1)*side, sideOf(b)), rounded((p.Y-b.Y1)*side, sideOf(b)))
	}
	return movedTo(i, list)
}

// mostInk has as many strokes and points as there may be, anywhere.
func mostInk(s *source) impl.Ink {
	var strokes []impl.Stroke
	for range impl.MaxStrokes {
		strokes = append(strokes, randomPath(s, impl.MaxCoord+1, impl.MaxPoints))
	}
	return inkOf(strokes...)
}

// manyInks are valid ink of all sorts, with strokes.
func manyInks(s *source) []impl.Ink {
	most := int64(impl.MaxCoord)
	inks := []impl.Ink{
		inkOf(path(0, 0)), inkOf(path(5, 7)), inkOf(path(most, most)), inkOf(path(5, 7), path(5, 7)), inkOf(path(3, 3, 4, 3)), inkOf(path(3, 3, 3, 4)),
		inkOf(path(0, 0, most, most)), inkOf(path(0, most, most, 0)), inkOf(path(9, 0, 9, most)), inkOf(path(0, 9, most, 9)), inkOf(path(0, 0), path(most, most)),
		inkOf(path(5, 5, 5, 5, 5, 5), path(5, 5)), inkOf(path(50, 0, 40, 40)), inkOf(path(50, 0, 40, 40), path(60, 20, 80, 70)), inkOf(zigzag(), zigzag()),
		mostInk(s), inkWith(impl.MaxStrokes, impl.MaxPoints), inkWith(impl.MaxStrokes, 1),
	}
	for _, side := range []int64{1, 2, 3, 9, 60, 256, 1000, impl.MaxCoord + 1} {
		for range 12 {
			var strokes []impl.Stroke
			for range 1 + s.below(impl.MaxStrokes) {
				strokes = append(strokes, randomPath(s, side, 1+s.below(1+s.below(9))))
			}
			inks = append(inks, inkOf(strokes...))
		}
	}
	for range 20 {
		if i := randomInk(s); len(i.Strokes) > 0 {
			inks = append(inks, i)
		}
	}
	return inks
}

// refusedInks checks a function of ink with invalid ones.
func refusedInks(t *testing.T, name string, call func(i impl.Ink) []any, zero any) {
	t.Helper()
	for reason, i := range wrongInks() {
		is(t, name+": "+reason, call(i), all(zero, impl.ErrInvalid))
	}
}

// outOfRange are integers that are no coordinates.
func outOfRange() []int64 { return append(extremes(), -1, -2, impl.MaxCoord+1, impl.MaxCoord+2) }
