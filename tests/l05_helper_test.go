package tests

import (
	"maps"
	"math"
	"slices"
	"strconv"
	"testing"

	"loop.example/g00918/impl"
)

// What follows states chapter 5 in another way, without the program's functions.

// place returns a point at the time 0.
func place(x, y int64) impl.Point { return impl.Point{X: x, Y: y} }

// path returns the stroke through places: X and Y of each, in turn.
func path(coordinates ...int64) impl.Stroke {
	var s impl.Stroke
	for at := 0; at < len(coordinates); at += 2 {
		s.Points = append(s.Points, point(coordinates[at], coordinates[at+1], int64(at)))
	}
	return s
}

// wrongPoints are invalid, each for one reason.
func wrongPoints() map[string]impl.Point {
	return map[string]impl.Point{
		"X -1":              point(-1, 6, 7),
		"X too great":       point(impl.MaxCoord+1, 6, 7),
		"X least":           point(leastInt, 6, 7),
		"X greatest":        point(greatestInt, 6, 7),
		"Y -1":              point(5, -1, 7),
		"Y too great":       point(5, impl.MaxCoord+1, 7),
		"Y least":           point(5, leastInt, 7),
		"Y greatest":        point(5, greatestInt, 7),
		"T -1":              point(5, 6, -1),
		"T too great":       point(5, 6, impl.MaxTime+1),
		"T least":           point(5, 6, leastInt),
		"T greatest":        point(5, 6, greatestInt),
		"least integers":    point(leastInt, leastInt, leastInt),
		"greatest integers": point(greatestInt, greatestInt, greatestInt),
	}
}

// edgePoints are valid, and at all limits of each part of a point.
func edgePoints() []impl.Point {
	var points []impl.Point
	for _, x := range []int64{0, impl.MaxCoord} {
		for _, y := range []int64{0, impl.MaxCoord} {
			for _, time := range []int64{0, impl.MaxTime} {
				points = append(points, point(x, y, time))
			}
		}
	}
	return points
}

// isRoot reports whether r is the greatest integer whose square is at most n.
func isRoot(r, n int64) bool { return r >= 0 && r*r <= n && (r+1)*(r+1) > n }

// far returns the length between two points, counted up from what floats say.
func far(a, b impl.Point) int64 {
	dx, dy := a.X-b.X, a.Y-b.Y
	square := 256 * (dx*dx + dy*dy)
	length := max(0, int64(16*math.Hypot(float64(dx), float64(dy)))-2)
	for !isRoot(length, square) {
		length++
	}
	return length
}

// sector returns the direction whose angle is nearest; eight of them make a whole turn.
func sector(dx, dy int64) int64 {
	eighths := math.Atan2(float64(dy), float64(dx)) / (math.Pi / 4)
	return (int64(math.Round(eighths)) + 8) % 8
}

// fitsDirection reports whether d is the direction of a difference by the document's two inequations and its signs.
func fitsDirection(d, dx, dy int64) bool {
	size := func(n int64) int64 { return max(n, -n) }
	square := (size(dx) + size(dy)) * (size(dx) + size(dy))
	flat, steep := square <= 2*dx*dx, square <= 2*dy*dy
	switch d {
	case 0:
		return flat && dx > 0
	case 4:
		return flat && dx < 0
	case 2:
		return !flat && steep && dy > 0
	case 6:
		return !flat && steep && dy < 0
	}
	signs := map[int64]bool{1: dx > 0 && dy > 0, 3: dx < 0 && dy > 0, 5: dx < 0 && dy < 0, 7: dx > 0 && dy < 0}
	return !flat && !steep && signs[d]
}

// turnTable has the turns for the differences of two directions, from -7 to 7.
func turnTable(difference int64) int64 {
	return []int64{1, 2, 3, 4, -3, -2, -1, 0, 1, 2, 3, 4, -3, -2, -1}[difference+7]
}

// sectorsAlong returns the directions of a stroke.
func sectorsAlong(s impl.Stroke) []int64 {
	var list []int64
	for at, p := range s.Points[1:] {
		if q := s.Points[at]; p.X != q.X || p.Y != q.Y {
			list = append(list, sector(p.X-q.X, p.Y-q.Y))
		}
	}
	return list
}

// bendAlong returns the sum of the turns of a stroke.
func bendAlong(s impl.Stroke) int64 {
	sum := int64(0)
	list := sectorsAlong(s)
	for at := range list[min(1, len(list)):] {
		sum += turnTable(list[at+1] - list[at])
	}
	return sum
}

// lengthAlong returns the length of a stroke.
func lengthAlong(s impl.Stroke) int64 {
	sum := int64(0)
	for at, p := range s.Points[1:] {
		sum += far(s.Points[at], p)
	}
	return sum
}

// straightness returns what StraightOf has to return, with the quotient counted up.
func straightness(s impl.Stroke) int64 {
	whole, direct := lengthAlong(s), far(s.Points[0], s.Points[len(s.Points)-1])
	n := int64(0)
	for n < 1000 && (n+1)*whole <= 1000*direct {
		n++
	}
	return n
}

// cross returns the product of the ways from o to p and from o to q; it is positive if q is to the right on the screen.
func cross(o, p, q impl.Point) int64 { return (p.X-o.X)*(q.Y-o.Y) - (p.Y-o.Y)*(q.X-o.X) }

func sign(n int64) int64 {
	switch {
	case n > 0:
		return 1
	case n < 0:
		return -1
	}
	return 0
}

// lies reports whether p is on the segment from a to b.
func lies(p, a, b impl.Point) bool {
	return cross(p, a, b) == 0 && (a.X-p.X)*(b.X-p.X)+(a.Y-p.Y)*(b.Y-p.Y) <= 0
}

// common reports whether two segments have a point in common: an end of one of them,
// or the point where their lines cross, if it is at a part from 0 to 1 of both.
func common(a, b, c, d impl.Point) bool {
	if lies(a, c, d) || lies(b, c, d) || lies(c, a, b) || lies(d, a, b) {
		return true
	}
	whole := (b.X-a.X)*(d.Y-c.Y) - (b.Y-a.Y)*(d.X-c.X)
	one := (c.X-a.X)*(d.Y-c.Y) - (c.Y-a.Y)*(d.X-c.X)
	other := (c.X-a.X)*(b.Y-a.Y) - (c.Y-a.Y)*(b.X-a.X)
	if whole < 0 {
		whole, one, other = -whole, -one, -other
	}
	return whole > 0 && 0 <= one && one <= whole && 0 <= other && other <= whole
}

// meetings counts the pairs of segments of two strokes that have a point in common.
func meetings(s, t impl.Stroke) int64 {
	count := int64(0)
	for k := range s.Points[1:] {
		for m := range t.Points[1:] {
			if common(s.Points[k], s.Points[k+1], t.Points[m], t.Points[m+1]) {
				count++
			}
		}
	}
	return count
}

// areaFrom returns the area of a stroke as a sum of triangles with a corner anywhere.
func areaFrom(o impl.Point, s impl.Stroke) int64 {
	sum := int64(0)
	for at, p := range s.Points {
		sum += cross(o, p, s.Points[(at+1)%len(s.Points)])
	}
	return sum
}

// nearestTo returns the index that NearestPoint has to return.
func nearestTo(s impl.Stroke, p impl.Point) int64 {
	var squares []int64
	for _, q := range s.Points {
		squares = append(squares, (p.X-q.X)*(p.X-q.X)+(p.Y-q.Y)*(p.Y-q.Y))
	}
	return int64(slices.Index(squares, slices.Min(squares)))
}

// backwards returns the stroke with its places in reverse order.
func backwards(s impl.Stroke) impl.Stroke {
	var back impl.Stroke
	for at, p := range s.Points {
		q := s.Points[len(s.Points)-1-at]
		back.Points = append(back.Points, point(q.X, q.Y, p.T))
	}
	return back
}

// randomPath returns a valid stroke with coordinates below a side; in a small one, places repeat and are on one line.
func randomPath(s *source, side, points int64) impl.Stroke {
	var made impl.Stroke
	for at := range points {
		made.Points = append(made.Points, point(s.below(side), s.below(side), 7*at))
	}
	return made
}

// manyPaths are valid strokes of all sorts.
func manyPaths(s *source) []impl.Stroke {
	paths := []impl.Stroke{
		path(0, 0), path(5, 5), path(impl.MaxCoord, impl.MaxCoord),
		path(5, 5, 5, 5), path(5, 5, 5, 5, 5, 5), path(5, 5, 5, 5, 6, 5, 6, 5),
		path(0, 0, 3, 4), path(0, 0, 10, 0, 10, 10, 0, 10, 0, 0), path(0, 0, 10, 0, 0, 0, 10, 0),
		strokeFrom(0, impl.MaxPoints), randomPath(s, impl.MaxCoord+1, impl.MaxPoints), randomPath(s, 1, impl.MaxPoints),
	}
	for _, side := range []int64{2, 3, 5, 9, 50, 1000, impl.MaxCoord + 1} {
		for range 8 {
			paths = append(paths, randomPath(s, side, 1+s.below(impl.MaxPoints)), randomPath(s, side, 1+s.below(5)))
		}
	}
	return paths
}

// pair names two numbers.
func pair(a, b int64) string { return strconv.FormatInt(a, 10) + " " + strconv.FormatInt(b, 10) }

// inOrder returns the values of a map in the order of their names, so that every run is the same.
func inOrder[T any](named map[string]T) []T {
	var values []T
	for _, name := range slices.Sorted(maps.Keys(named)) {
		values = append(values, named[name])
	}
	return values
}

// refusedStrokes checks a function of a stroke with invalid ones.
func refusedStrokes(t *testing.T, name string, call func(s impl.Stroke) []any, zero any) {
	t.Helper()
	for reason, s := range wrongStrokes() {
		is(t, name+": "+reason, call(s), all(zero, impl.ErrInvalid))
	}
}
