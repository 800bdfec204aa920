package tests

import (
	"testing"

	"loop.example/g00918/impl"
)

func TestTurnOf(t *testing.T) {
	most := int64(impl.MaxCoord)
	cases := map[string]struct {
		a, b, c impl.Point
		turn    int64
	}{
		"to the right":           {place(0, 0), place(4, 0), place(4, 4), 1},
		"to the left":            {place(0, 4), place(4, 4), place(4, 0), -1},
		"straight on":            {place(0, 0), place(4, 4), place(8, 8), 0},
		"back":                   {place(0, 0), place(4, 4), place(2, 2), 0},
		"behind the beginning":   {place(4, 4), place(8, 8), place(0, 0), 0},
		"all at one place":       {place(3, 3), place(3, 3), place(3, 3), 0},
		"the first two at one":   {place(3, 3), place(3, 3), place(9, 1), 0},
		"the last two at one":    {place(3, 3), place(9, 1), place(9, 1), 0},
		"back to the beginning":  {place(3, 3), place(9, 1), place(3, 3), 0},
		"a little to the right":  {place(0, 0), place(most, most-1), place(most-1, most-1), 1},
		"a little to the left":   {place(0, 0), place(most-1, most), place(most-2, most-2), -1},
		"the greatest product":   {place(0, 0), place(most, 0), place(0, most), 1},
		"the least product":      {place(0, 0), place(0, most), place(most, 0), -1},
		"with times":             {point(0, 0, impl.MaxTime), point(4, 0, 0), point(4, 4, 5), 1},
		"from the greatest on":   {place(most, most), place(0, most), place(0, 0), 1},
		"nearly straight, right": {place(0, 0), place(12, 5), place(24, 11), 1},
		"nearly straight, left":  {place(0, 0), place(12, 5), place(24, 9), -1},
	}
	for name, c := range cases {
		is(t, name, all(impl.TurnOf(c.a, c.b, c.c)), all(c.turn, impl.OK))
		is(t, name+", from the next point on", all(impl.TurnOf(c.b, c.c, c.a)), all(c.turn, impl.OK))
		is(t, name+", backwards", all(impl.TurnOf(c.c, c.b, c.a)), all(-c.turn, impl.OK))
	}
	s := source(50)
	for range 5000 {
		side := int64(2) << s.below(12)
		a, b, c := place(s.below(side), s.below(side)), place(s.below(side), s.below(side)), place(s.below(side), s.below(side))
		is(t, "any points", all(impl.TurnOf(a, b, c)), all(sign(cross(a, b, c)), impl.OK))
	}
}

func TestTurnOfErrors(t *testing.T) {
	for name, p := range wrongPoints() {
		for _, q := range edgePoints() {
			is(t, name+", first", all(impl.TurnOf(p, q, place(4, 4))), all(int64(0), impl.ErrInvalid))
			is(t, name+", second", all(impl.TurnOf(q, p, place(4, 4))), all(int64(0), impl.ErrInvalid))
			is(t, name+", third", all(impl.TurnOf(q, place(4, 4), p)), all(int64(0), impl.ErrInvalid))
			is(t, name+", all", all(impl.TurnOf(p, p, p)), all(int64(0), impl.ErrInvalid))
			is(t, "limits", all(impl.TurnOf(q, q, q)), all(int64(0), impl.OK))
		}
	}
}

// meet checks SegmentsMeet of two segments, with the ends of each exchanged, and with both exchanged.
func meet(t *testing.T, name string, a, b, c, d impl.Point, want bool) {
	t.Helper()
	if common(a, b, c, d) != want {
		t.Errorf("%s: the test expects %v of %v %v %v %v", name, want, a, b, c, d)
	}
	for at, p := range [][4]impl.Point{{a, b, c, d}, {b, a, c, d}, {a, b, d, c}, {b, a, d, c}, {c, d, a, b}, {d, c, a, b}, {c, d, b, a}, {d, c, b, a}} {
		if impl.SegmentsMeet(p[0], p[1], p[2], p[3]) != want {
			t.Errorf("%s: not %v in order %d of %v %v %v %v", name, want, at, a, b, c, d)
		}
	}
}

func TestSegmentsMeet(t *testing.T) {
	most := int64(impl.MaxCoord)
	cases := map[string]struct {
		ends [8]int64
		want bool
	}{
		"across in the middle":               {[8]int64{0, 0, 4, 4, 0, 4, 4, 0}, true},
		"across between integers":            {[8]int64{0, 0, 3, 3, 0, 3, 3, 0}, true},
		"upright and flat":                   {[8]int64{2, 0, 2, 9, 0, 5, 10, 5}, true},
		"an end in the middle":               {[8]int64{0, 0, 8, 0, 4, 0, 4, 5}, true},
		"an end next to the middle":          {[8]int64{0, 0, 8, 0, 4, 1, 4, 5}, false},
		"a slanted one in the middle":        {[8]int64{0, 0, 9, 6, 3, 2, 7, 0}, true},
		"a common end":                       {[8]int64{0, 0, 4, 0, 4, 0, 9, 9}, true},
		"a common end, straight on":          {[8]int64{0, 0, 4, 4, 4, 4, 9, 9}, true},
		"a common end, and back":             {[8]int64{0, 0, 4, 4, 4, 4, 1, 1}, true},
		"the same":                           {[8]int64{1, 2, 7, 5, 1, 2, 7, 5}, true},
		"partly on each other":               {[8]int64{0, 0, 4, 0, 2, 0, 8, 0}, true},
		"partly on each other, slanted":      {[8]int64{0, 0, 6, 4, 3, 2, 9, 6}, true},
		"partly on each other, falling":      {[8]int64{0, 9, 6, 3, 4, 5, 9, 0}, true},
		"one within the other":               {[8]int64{0, 0, 9, 9, 3, 3, 5, 5}, true},
		"on one line, apart":                 {[8]int64{0, 0, 4, 0, 5, 0, 8, 0}, false},
		"on one line, apart, upright":        {[8]int64{3, 0, 3, 4, 3, 5, 3, 9}, false},
		"on one line, apart, slanted":        {[8]int64{0, 0, 2, 2, 3, 3, 5, 5}, false},
		"on one line, apart, falling":        {[8]int64{0, 9, 2, 7, 3, 6, 9, 0}, false},
		"beside each other":                  {[8]int64{0, 0, 8, 0, 0, 1, 8, 1}, false},
		"beside each other, slanted":         {[8]int64{0, 0, 8, 8, 1, 0, 9, 8}, false},
		"boxes meet, lines do not":           {[8]int64{0, 0, 8, 8, 5, 1, 8, 4}, false},
		"boxes meet, one side":               {[8]int64{0, 0, 9, 9, 4, 3, 9, 0}, false},
		"one line passes the other":          {[8]int64{0, 0, 9, 9, 9, 0, 6, 5}, false},
		"boxes apart":                        {[8]int64{0, 0, 1, 1, 3, 0, 4, 4}, false},
		"an end on the line, not on it":      {[8]int64{0, 0, 4, 4, 5, 5, 5, 9}, false},
		"an end on the line, boxes meet":     {[8]int64{0, 0, 6, 3, 8, 4, 5, 0}, false},
		"a point in the middle":              {[8]int64{0, 0, 8, 4, 4, 2, 4, 2}, true},
		"a point at an end":                  {[8]int64{0, 0, 8, 4, 8, 4, 8, 4}, true},
		"a point on the line, not on it":     {[8]int64{0, 0, 8, 4, 10, 5, 10, 5}, false},
		"a point beside it":                  {[8]int64{0, 0, 8, 4, 4, 3, 4, 3}, false},
		"a point at the corner of the box":   {[8]int64{0, 0, 8, 4, 8, 0, 8, 0}, false},
		"a point on a flat one":              {[8]int64{0, 3, 8, 3, 5, 3, 5, 3}, true},
		"a point on the line of a flat one":  {[8]int64{0, 3, 8, 3, 9, 3, 9, 3}, false},
		"two points at one place":            {[8]int64{5, 6, 5, 6, 5, 6, 5, 6}, true},
		"two points, X different":            {[8]int64{5, 6, 5, 6, 6, 6, 6, 6}, false},
		"two points, Y different":            {[8]int64{5, 6, 5, 6, 5, 7, 5, 7}, false},
		"the diagonals of the plane":         {[8]int64{0, 0, most, most, 0, most, most, 0}, true},
		"the edges of the plane":             {[8]int64{0, 0, most, 0, 0, most, most, most}, false},
		"just across":                        {[8]int64{0, 0, most, most - 1, most - 1, most - 2, most, most}, true},
		"just not across":                    {[8]int64{0, 0, most, most - 1, most - 1, most - 1, most, most}, false},
		"great and parallel, next but apart": {[8]int64{0, 0, most - 1, most, 1, 0, most, most}, false},
	}
	for name, c := range cases {
		e := c.ends
		meet(t, name, place(e[0], e[1]), place(e[2], e[3]), place(e[4], e[5]), place(e[6], e[7]), c.want)
	}
	is(t, "times do not count", impl.SegmentsMeet(point(0, 0, 9), point(4, 4, 1), point(0, 4, 9), point(4, 0, impl.MaxTime)), true)
}

// TestSegmentsMeetInASquare has all segments with ends in a small square.
func TestSegmentsMeetInASquare(t *testing.T) {
	var points []impl.Point
	for x := range int64(5) {
		for y := range int64(4) {
			points = append(points, place(x, y))
		}
	}
	met, apart := 0, 0
	for _, a := range points {
		for _, b := range points {
			for _, c := range points {
				for _, d := range points {
					got := impl.SegmentsMeet(a, b, c, d)
					if got != common(a, b, c, d) {
						t.Fatalf("%v %v %v %v: %v", a, b, c, d, got)
					}
					if got {
						met++
					} else {
						apart++
					}
				}
			}
		}
	}
	is(t, "both are there", met > 10000 && apart > 10000, true)
}

// TestSegmentsMeetAnywhere has long segments, some of which end near or on the other one.
func TestSegmentsMeetAnywhere(t *testing.T) {
	s := source(51)
	anywhere := func() impl.Point { return place(s.below(4096), s.below(4096)) }
	near := func(n int64) int64 { return max(0, min(impl.MaxCoord, n+s.below(3)-1)) }
	for range 20000 {
		a, b, c, d := anywhere(), anywhere(), anywhere(), anywhere()
		meet(t, "anywhere", a, b, c, d, common(a, b, c, d))
		part := s.below(17)
		c = place(near(a.X+(b.X-a.X)*part/16), near(a.Y+(b.Y-a.Y)*part/16))
		meet(t, "near the other one", a, b, c, d, common(a, b, c, d))
	}
}

func TestSegmentsMeetErrors(t *testing.T) {
	for name, p := range wrongPoints() {
		for _, q := range append(edgePoints(), p) {
			is(t, name+", first", impl.SegmentsMeet(p, q, q, q), false)
			is(t, name+", second", impl.SegmentsMeet(q, p, q, q), false)
			is(t, name+", third", impl.SegmentsMeet(q, q, p, q), false)
			is(t, name+", fourth", impl.SegmentsMeet(q, q, q, p), false)
		}
	}
	for _, q := range edgePoints() {
		is(t, "limits", impl.SegmentsMeet(q, q, q, q), true)
	}
	is(t, "across, but outside", impl.SegmentsMeet(place(0, 0), place(4096, 4096), place(0, 4096), place(4096, 0)), false)
}

func TestCrossingCount(t *testing.T) {
	square := path(0, 0, 10, 0, 10, 10, 0, 10, 0, 0)
	cases := map[string]struct {
		s, t  impl.Stroke
		count int64
	}{
		"two points":                      {path(5, 5), path(5, 5), 0},
		"a point and a segment":           {path(5, 5), path(0, 0, 10, 10), 0},
		"one crossing":                    {path(0, 0, 10, 10), path(0, 10, 10, 0), 1},
		"none":                            {path(0, 0, 10, 0), path(0, 5, 10, 5), 0},
		"two":                             {path(0, 5, 10, 5), path(2, 0, 2, 9, 4, 0), 2},
		"through a corner counts twice":   {path(0, 5, 5, 5, 5, 9), path(2, 8, 8, 2), 2},
		"along a side and to its corner":  {path(0, 0, 5, 0, 5, 5), path(0, 5, 9, 0, 0, 0), 3},
		"two corners at one place":        {path(0, 0, 5, 5, 10, 0), path(0, 10, 5, 5, 10, 10), 4},
		"on each other":                   {path(0, 0, 10, 0), path(5, 0, 20, 0), 1},
		"on one line, apart":              {path(0, 0, 10, 0), path(11, 0, 20, 0), 0},
		"a rest on the other stroke":      {path(0, 5, 10, 5), path(4, 5, 4, 5), 1},
		"rests on the other stroke":       {path(0, 5, 10, 5), path(4, 5, 4, 5, 4, 5, 4, 5), 3},
		"a rest beside it":                {path(0, 5, 10, 5), path(4, 6, 4, 6), 0},
		"a rest on its line":              {path(0, 5, 10, 5), path(11, 5, 11, 5), 0},
		"a rest in the box":               {path(0, 0, 10, 10), path(4, 6, 4, 6), 0},
		"rests at one place":              {path(5, 5, 5, 5, 5, 5), path(5, 5, 5, 5, 5, 5, 5, 5), 6},
		"rests at two places":             {path(5, 5, 5, 5, 5, 5), path(5, 6, 5, 6), 0},
		"a rest at a corner":              {square, path(10, 10, 10, 10), 2},
		"a square with itself":            {square, square, 12},
		"a segment with itself":           {path(0, 0, 9, 0), path(0, 0, 9, 0), 1},
		"a square and its diagonal":       {square, path(0, 0, 10, 10), 4},
		"a square and a line through it":  {square, path(5, 0, 5, 20), 2},
		"a square and a line within":      {square, path(3, 3, 7, 7), 0},
		"the most points with themselves": {strokeFrom(0, impl.MaxPoints), strokeFrom(7, impl.MaxPoints), 59 + 2*58},
		"as many as there may be":         {zigzag(), zigzag(), 59 * 59},
		"the most in one place":           {randomPath(new(source), 1, impl.MaxPoints), randomPath(new(source), 1, impl.MaxPoints), 59 * 59},
	}
	for name, c := range cases {
		is(t, name, all(impl.CrossingCount(c.s, c.t)), all(c.count, impl.OK))
		is(t, name+", exchanged", all(impl.CrossingCount(c.t, c.s)), all(c.count, impl.OK))
	}
	s := source(52)
	paths := manyPaths(&s)
	for at, one := range paths {
		for _, other := range paths[max(0, at-6) : at+1] {
			is(t, "any strokes", all(impl.CrossingCount(one, other)), all(meetings(one, other), impl.OK))
		}
	}
}

func TestCrossingCountErrors(t *testing.T) {
	for name, wrong := range wrongStrokes() {
		for _, s := range []impl.Stroke{path(1, 1, 9, 9), path(1, 1), wrong} {
			is(t, name, all(impl.CrossingCount(wrong, s)), all(int64(0), impl.ErrInvalid))
			is(t, name+", second", all(impl.CrossingCount(s, wrong)), all(int64(0), impl.ErrInvalid))
		}
	}
}
