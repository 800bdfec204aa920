package tests

import (
	"math"
	"strconv"
	"testing"

	"loop.example/g00918/impl"
)

// What follows states chapter 6 in another way, without the program's functions.

func spot(x, y int64) impl.Spot { return impl.Spot{X: x, Y: y} }

// spots returns a list of places: X and Y of each, in turn.
func spots(coordinates ...int64) []impl.Spot {
	var list []impl.Spot
	for at := 0; at < len(coordinates); at += 2 {
		list = append(list, spot(coordinates[at], coordinates[at+1]))
	}
	return list
}

// rounded returns the nearest integer to n / d, the greater one of two, counted up from what floats say.
func rounded(n, d int64) int64 {
	r := int64(math.Floor(float64(n)/float64(d))) - 2
	for 2*(n-r*d) >= d {
		r++
	}
	return r
}

// lower returns n / d rounded down, counted in the same way.
func lower(n, d int64) int64 {
	r := int64(math.Floor(float64(n)/float64(d))) - 2
	for (r+1)*d <= n {
		r++
	}
	return r
}

// TestRoundedQuotients checks what the other tests rely on.
func TestRoundedQuotients(t *testing.T) {
	for n, want := range map[int64][2]int64{
		-7: {-2, -2}, -6: {-1, -2}, -5: {-1, -2}, -4: {-1, -1}, -3: {-1, -1}, -2: {0, -1}, -1: {0, -1},
		0: {0, 0}, 1: {0, 0}, 2: {1, 0}, 3: {1, 0}, 4: {1, 1}, 5: {1, 1}, 6: {2, 1}, 7: {2, 1},
	} {
		is(t, strconv.FormatInt(n, 10)+" / 4", [2]int64{rounded(n, 4), lower(n, 4)}, want)
	}
}

// placesAlong returns the places of the points of a stroke.
func placesAlong(s impl.Stroke) []impl.Spot {
	var list []impl.Spot
	for _, p := range s.Points {
		list = append(list, spot(p.X, p.Y))
	}
	return list
}

// arcsAlong returns the lengths of the stroke up to each point, each one added up from the beginning.
func arcsAlong(s impl.Stroke) []int64 {
	var arcs []int64
	for at := range s.Points {
		arcs = append(arcs, lengthAlong(stroke(s.Points[:at+1]...)))
	}
	return arcs
}

// spotAlong goes through the segments as the document says.
func spotAlong(s impl.Stroke, part, parts int64) impl.Spot {
	whole, c := lengthAlong(s), int64(0)
	for at, b := range s.Points[1:] {
		a := s.Points[at]
		l := far(a, b)
		c += l
		if l != 0 && c*parts >= whole*part {
			n, d := whole*part-(c-l)*parts, l*parts
			return spot(a.X+rounded((b.X-a.X)*n, d), a.Y+rounded((b.Y-a.Y)*n, d))
		}
	}
	return spot(s.Points[0].X, s.Points[0].Y)
}

// thinAlong returns the points that ThinStroke has to return.
func thinAlong(s impl.Stroke, step int64) impl.Stroke {
	first, last := s.Points[0], s.Points[len(s.Points)-1]
	thin := stroke(first)
	if len(s.Points) == 1 {
		return thin
	}
	kept := first
	for _, p := range s.Points[1 : len(s.Points)-1] {
		if far(kept, p) >= 16*step {
			thin.Points = append(thin.Points, p)
			kept = p
		}
	}
	thin.Points = append(thin.Points, last)
	return thin
}

// smoothAlong returns the stroke that SmoothStroke has to return.
func smoothAlong(s impl.Stroke) impl.Stroke {
	var smooth impl.Stroke
	for at, p := range s.Points {
		if at > 0 && at < len(s.Points)-1 {
			a, c := s.Points[at-1], s.Points[at+1]
			p.X, p.Y = rounded(a.X+2*p.X+c.X, 4), rounded(a.Y+2*p.Y+c.Y, 4)
		}
		smooth.Points = append(smooth.Points, p)
	}
	return smooth
}

// reverseAlong returns the stroke that ReverseStroke has to return: it takes the same times, in reverse order.
func reverseAlong(s impl.Stroke) impl.Stroke {
	back := stroke(s.Points[len(s.Points)-1])
	back.Points[0].T = s.Points[0].T
	for at := len(s.Points) - 2; at >= 0; at-- {
		p := s.Points[at]
		p.T = back.Points[len(back.Points)-1].T + s.Points[at+1].T - s.Points[at].T
		back.Points = append(back.Points, p)
	}
	return back
}

// pauseAlong returns the index of the first one of the longest times; there are two points at least.
func pauseAlong(s impl.Stroke) int64 {
	best := 0
	for at := len(s.Points) - 2; at >= 0; at-- {
		if s.Points[at+1].T-s.Points[at].T >= s.Points[best+1].T-s.Points[best].T {
			best = at
		}
	}
	return int64(best)
}

// speedsAlong returns the speeds of a stroke.
func speedsAlong(s impl.Stroke) []int64 {
	var speeds []int64
	for at, p := range s.Points[1:] {
		speeds = append(speeds, lower(1000*far(s.Points[at], p), p.T-s.Points[at].T))
	}
	return speeds
}

// timed returns the stroke with other times.
func timed(s impl.Stroke, times ...int64) impl.Stroke {
	var with impl.Stroke
	for at, p := range s.Points {
		with.Points = append(with.Points, point(p.X, p.Y, times[at]))
	}
	return with
}

// manyTimedPaths are valid strokes of all sorts whose times rise by different numbers.
func manyTimedPaths(s *source) []impl.Stroke {
	paths := []impl.Stroke{zigzag(), atMostTimes(), ringFrom(0)}
	for _, p := range manyPaths(s) {
		time := s.below(100)
		var with impl.Stroke
		for _, q := range p.Points {
			with.Points = append(with.Points, point(q.X, q.Y, time))
			time += 1 + s.below(4)*s.below(300)
		}
		paths = append(paths, p, with)
	}
	return paths
}

// atMostTimes has the first and the last time there is.
func atMostTimes() impl.Stroke {
	return stroke(point(1, 2, 0), point(300, 4, 5), point(300, 4, 3000000), point(0, impl.MaxCoord, impl.MaxTime))
}

// extremes are numbers next to the ends of int64, and some that lose their sign when they are multiplied.
func extremes() []int64 {
	return []int64{greatestInt, greatestInt - 1, leastInt, leastInt + 1, 1 << 62, -1 << 62, 1 << 59, -1 << 59, 1 << 32, -1 << 32}
}
