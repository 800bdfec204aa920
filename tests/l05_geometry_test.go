package tests

import (
	"slices"
	"strconv"
	"testing"

	"loop.example/g00918/impl"
)

func TestLimitsOfGeometry(t *testing.T) {
	is(t, "limits", []int64{impl.LengthScale, impl.MaxSquare, impl.Directions}, []int64{16, 1000000000000000, 8})
}

func TestRootOf(t *testing.T) {
	roots := []int64{0, 1, 1, 1, 2, 2, 2, 2, 2, 3, 3, 3, 3, 3, 3, 3, 4, 4}
	for n, r := range roots {
		is(t, strconv.Itoa(n), all(impl.RootOf(int64(n))), all(r, impl.OK))
	}
	is(t, "a great square", all(impl.RootOf(1000000000000)), all(int64(1000000), impl.OK))
	is(t, "the greatest square", all(impl.RootOf(31622776*31622776)), all(int64(31622776), impl.OK))
	is(t, "less than that", all(impl.RootOf(31622776*31622776-1)), all(int64(31622775), impl.OK))
	is(t, "the limit", all(impl.RootOf(impl.MaxSquare)), all(int64(31622776), impl.OK))
	is(t, "less than the limit", all(impl.RootOf(impl.MaxSquare-1)), all(int64(31622776), impl.OK))
}

func TestRootOfErrors(t *testing.T) {
	for _, n := range []int64{-1, -2, -16, -impl.MaxSquare, impl.MaxSquare + 1, 31622777 * 31622777, 1 << 62, -1 << 62, greatestInt, greatestInt - 1, leastInt, leastInt + 1} {
		is(t, strconv.FormatInt(n, 10), all(impl.RootOf(n)), all(int64(0), impl.ErrRange))
	}
}

// TestRootOfNearSquares has all numbers next to the squares of many integers, and powers of 2.
func TestRootOfNearSquares(t *testing.T) {
	check := func(n int64) {
		if n < 0 || n > impl.MaxSquare {
			return
		}
		if r, code := impl.RootOf(n); !isRoot(r, n) || code != impl.OK {
			t.Fatalf("the root of %d: %d, %d", n, r, code)
		}
	}
	s := source(40)
	var roots []int64
	for r := range int64(3000) {
		roots = append(roots, r, 31622776-r, s.below(31622777))
	}
	for bit := range 25 {
		roots = append(roots, 1<<bit-1, 1<<bit, 1<<bit+1)
	}
	for _, r := range roots {
		for d := int64(-3); d <= 3; d++ {
			check(r*r + d)
			check(r*r + r + d)
		}
	}
	for bit := range 50 {
		for d := int64(-2); d <= 2; d++ {
			check(1<<bit + d)
		}
	}
	for n := range int64(70000) {
		check(n)
		check(impl.MaxSquare - n)
	}
}

func TestSegmentLength(t *testing.T) {
	cases := []struct{ x, y, length int64 }{
		{0, 0, 0}, {3, 4, 80}, {4, 3, 80}, {1, 0, 16}, {0, 1, 16}, {1, 1, 22}, {2, 1, 35}, {2, 2, 45}, {5, 12, 208},
		{impl.MaxCoord, 0, 65520}, {0, impl.MaxCoord, 65520}, {impl.MaxCoord, impl.MaxCoord, 92659}, {impl.MaxCoord, 1, 65520}, {impl.MaxCoord, impl.MaxCoord - 1, 92647},
	}
	for _, c := range cases {
		is(t, "to "+pair(c.x, c.y), all(impl.SegmentLength(place(0, 0), place(c.x, c.y))), all(c.length, impl.OK))
		is(t, "from "+pair(c.x, c.y), all(impl.SegmentLength(place(c.x, c.y), place(0, 0))), all(c.length, impl.OK))
	}
	is(t, "times do not count", all(impl.SegmentLength(point(10, 20, impl.MaxTime), point(7, 16, 0))), all(int64(80), impl.OK))
	is(t, "to the right and upwards", all(impl.SegmentLength(place(1, 8), place(4, 4))), all(int64(80), impl.OK))
}

func TestSegmentLengthOfAnyPoints(t *testing.T) {
	s := source(41)
	points := edgePoints()
	for range 300 {
		points = append(points, point(s.below(4096), s.below(4096), s.below(3600001)), point(s.below(5), s.below(5), 3))
	}
	for at, a := range points {
		for _, b := range points[max(0, at-20):] {
			if n, code := impl.SegmentLength(a, b); n != far(a, b) || code != impl.OK {
				t.Fatalf("from %v to %v: %d, %d", a, b, n, code)
			}
		}
	}
}

func TestSegmentLengthErrors(t *testing.T) {
	for name, p := range wrongPoints() {
		for _, q := range append(edgePoints(), p) {
			is(t, name, all(impl.SegmentLength(p, q)), all(int64(0), impl.ErrInvalid))
			is(t, name+" at the end", all(impl.SegmentLength(q, p)), all(int64(0), impl.ErrInvalid))
		}
	}
}

// zigzag has the most points, in two corners of the plane in turn.
func zigzag() impl.Stroke {
	var s impl.Stroke
	for at := range int64(impl.MaxPoints) {
		s.Points = append(s.Points, point(at%2*impl.MaxCoord, at%2*impl.MaxCoord, impl.MaxTime-60+at))
	}
	return s
}

func TestStrokeLength(t *testing.T) {
	cases := map[string]struct {
		s      impl.Stroke
		length int64
	}{
		"one point":             {path(7, 8), 0},
		"one point at the end":  {path(impl.MaxCoord, impl.MaxCoord), 0},
		"the example":           {path(0, 0, 3, 4), 80},
		"two segments":          {path(0, 0, 3, 4, 3, 10), 176},
		"there and back":        {path(0, 0, 3, 4, 0, 0), 160},
		"rounded one by one":    {path(0, 0, 1, 1, 2, 2), 44},
		"points at one place":   {path(5, 5, 5, 5, 5, 5), 0},
		"a rest in the middle":  {path(0, 0, 3, 4, 3, 4, 6, 8), 160},
		"the most points":       {strokeFrom(0, impl.MaxPoints), 59 * 35},
		"as long as it may be":  {zigzag(), 59 * 92659},
		"the most at one place": {randomPath(new(source), 1, impl.MaxPoints), 0},
	}
	for name, c := range cases {
		is(t, name, all(impl.StrokeLength(c.s)), all(c.length, impl.OK))
	}
	s := source(42)
	for _, p := range manyPaths(&s) {
		is(t, "any stroke", all(impl.StrokeLength(p)), all(lengthAlong(p), impl.OK))
	}
	refusedStrokes(t, "StrokeLength", func(s impl.Stroke) []any { return all(impl.StrokeLength(s)) }, int64(0))
}

func TestDirectionOf(t *testing.T) {
	most := int64(impl.MaxCoord)
	cases := []struct{ dx, dy, direction int64 }{
		{1, 0, 0}, {1, 1, 1}, {0, 1, 2}, {-1, 1, 3}, {-1, 0, 4}, {-1, -1, 5}, {0, -1, 6}, {1, -1, 7},
		{most, 0, 0}, {most, most, 1}, {0, most, 2}, {-most, most, 3}, {-most, 0, 4}, {-most, -most, 5}, {0, -most, 6}, {most, -most, 7},
		{most, 1, 0}, {1, most, 2}, {-most, 1, 4}, {1, -most, 6}, {most, most - 1, 1}, {1 - most, most, 3}, {-most, 1 - most, 5}, {most - 1, -most, 7},
		{5, 2, 0}, {5, 3, 1}, {3, 5, 1}, {2, 5, 2}, {-2, 5, 2}, {-3, 5, 3}, {-5, 3, 3}, {-5, 2, 4},
		{-5, -2, 4}, {-5, -3, 5}, {-3, -5, 5}, {-2, -5, 6}, {2, -5, 6}, {3, -5, 7}, {5, -3, 7}, {5, -2, 0},
	}
	for _, c := range cases {
		is(t, pair(c.dx, c.dy), all(impl.DirectionOf(c.dx, c.dy)), all(c.direction, impl.OK))
	}
}

// TestDirectionsNextToTheBorder has the last difference in one sector and the first one in the next, for each size and
// each border. None is on a border itself, because the ratio of its parts would be the root of 2, minus 1.
func TestDirectionsNextToTheBorder(t *testing.T) {
	for size := int64(1); size <= impl.MaxCoord; size++ {
		lesser := int64(0)
		for (size+lesser+1)*(size+lesser+1) <= 2*size*size {
			lesser++
		}
		if (size+lesser)*(size+lesser) == 2*size*size {
			t.Fatal("on the border:", size, lesser)
		}
		in, out := lesser, lesser+1
		want := map[[2]int64]int64{
			{size, in}: 0, {size, out}: 1, {out, size}: 1, {in, size}: 2, {-in, size}: 2, {-out, size}: 3, {-size, out}: 3, {-size, in}: 4,
			{-size, -in}: 4, {-size, -out}: 5, {-out, -size}: 5, {-in, -size}: 6, {in, -size}: 6, {out, -size}: 7, {size, -out}: 7, {size, -in}: 0,
		}
		for d, direction := range want {
			got, code := impl.DirectionOf(d[0], d[1])
			if got != direction || code != impl.OK || !fitsDirection(direction, d[0], d[1]) {
				t.Fatalf("the direction of %v: %d, %d", d, got, code)
			}
		}
	}
}

// TestDirectionsOfBestRatios has the differences that are nearer to the border than all smaller ones.
func TestDirectionsOfBestRatios(t *testing.T) {
	lesser, greater := int64(0), int64(1)
	for step := int64(0); greater <= impl.MaxCoord; step++ {
		// The ratios are on both sides of the border in turn, the first one below it.
		side := step % 2
		for _, c := range [][3]int64{
			{greater, lesser, side}, {lesser, greater, 2 - side}, {-lesser, greater, 2 + side}, {-greater, lesser, 4 - side},
			{-greater, -lesser, 4 + side}, {-lesser, -greater, 6 - side}, {lesser, -greater, 6 + side}, {greater, -lesser, (8 - side) % 8},
		} {
			is(t, pair(c[0], c[1]), all(impl.DirectionOf(c[0], c[1])), all(c[2], impl.OK))
			is(t, pair(c[0], c[1])+" by the inequations", fitsDirection(c[2], c[0], c[1]), true)
		}
		lesser, greater = greater, 2*greater+lesser
	}
}

// TestDirectionOfAnyDifference has all small differences, and all of which one part is small or great.
func TestDirectionOfAnyDifference(t *testing.T) {
	check := func(dx, dy int64) {
		d, code := impl.DirectionOf(dx, dy)
		if dx == 0 && dy == 0 {
			is(t, "no difference", all(d, code), all(int64(0), impl.ErrState))
			return
		}
		if code != impl.OK || d != sector(dx, dy) || !fitsDirection(d, dx, dy) {
			t.Fatalf("the direction of %d, %d: %d, %d", dx, dy, d, code)
		}
	}
	for dx := int64(-80); dx <= 80; dx++ {
		for dy := int64(-80); dy <= 80; dy++ {
			check(dx, dy)
		}
	}
	for n := int64(-impl.MaxCoord); n <= impl.MaxCoord; n++ {
		for _, m := range []int64{0, 1, -1, 2, impl.MaxCoord, -impl.MaxCoord, impl.MaxCoord - 1, n, -n} {
			check(n, m)
			check(m, n)
		}
	}
}

func TestDirectionOfErrors(t *testing.T) {
	is(t, "both 0", all(impl.DirectionOf(0, 0)), all(int64(0), impl.ErrState))
	for _, n := range append(beyond(impl.MaxCoord), 1<<31, -1<<31, 1<<33, -1<<33) {
		for _, m := range []int64{0, 1, -1, impl.MaxCoord, -impl.MaxCoord, n, -n} {
			is(t, pair(n, m), all(impl.DirectionOf(n, m)), all(int64(0), impl.ErrRange))
			is(t, pair(m, n), all(impl.DirectionOf(m, n)), all(int64(0), impl.ErrRange))
		}
	}
}

// ringFrom returns the stroke that goes a step in each direction, beginning with one of them.
func ringFrom(first int) impl.Stroke {
	steps := [][2]int64{{9, 0}, {9, 9}, {0, 9}, {-9, 9}, {-9, 0}, {-9, -9}, {0, -9}, {9, -9}}
	coordinates := []int64{100, 100}
	for k := range 8 {
		at := len(coordinates) - 2
		step := steps[(first+k)%8]
		coordinates = append(coordinates, coordinates[at]+step[0], coordinates[at+1]+step[1])
	}
	return path(coordinates...)
}

func TestDirectionsOf(t *testing.T) {
	cases := map[string]struct {
		s    impl.Stroke
		list []int64
	}{
		"one point":            {path(5, 5), nil},
		"points at one place":  {path(5, 5, 5, 5, 5, 5), nil},
		"one segment":          {path(5, 5, 9, 9), []int64{1}},
		"a square":             {path(0, 0, 10, 0, 10, 10, 0, 10, 0, 0), []int64{0, 2, 4, 6}},
		"a rest in the middle": {path(0, 0, 10, 0, 10, 0, 10, 0, 10, 10), []int64{0, 2}},
		"rests at the ends":    {path(0, 0, 0, 0, 10, 0, 10, 0), []int64{0}},
		"all directions":       {ringFrom(0), []int64{0, 1, 2, 3, 4, 5, 6, 7}},
		"from another one on":  {ringFrom(6), []int64{6, 7, 0, 1, 2, 3, 4, 5}},
		"equal directions":     {path(0, 0, 10, 1, 20, 0, 30, 1), []int64{0, 0, 0}},
		"the most points":      {strokeFrom(0, impl.MaxPoints), slices.Repeat([]int64{1}, 59)},
		"great differences":    {zigzag(), append(slices.Repeat([]int64{1, 5}, 29), 1)},
	}
	for name, c := range cases {
		is(t, name, all(impl.DirectionsOf(c.s)), all(c.list, impl.OK))
	}
	s := source(43)
	for _, p := range manyPaths(&s) {
		is(t, "any stroke", all(impl.DirectionsOf(p)), all(sectorsAlong(p), impl.OK))
	}
	refusedStrokes(t, "DirectionsOf", func(s impl.Stroke) []any { return all(impl.DirectionsOf(s)) }, []int64{})
}

// TestBendOfTwoDirections has all pairs of directions, and so all turns from -3 to 4.
func TestBendOfTwoDirections(t *testing.T) {
	seen := map[int64]int{}
	for one := range int64(8) {
		for other := range int64(8) {
			first := ringFrom(int(one)).Points[1]
			second := ringFrom(int(other)).Points[1]
			s := path(500, 500, 400+first.X, 400+first.Y, 300+first.X+second.X, 300+first.Y+second.Y)
			turn, code := impl.BendOf(s)
			is(t, "directions", all(impl.DirectionsOf(s)), all([]int64{one, other}, impl.OK))
			is(t, "from "+pair(one, other), all(turn, code), all(turnTable(other-one), impl.OK))
			seen[turn]++
		}
	}
	is(t, "all turns", seen, map[int64]int{-3: 8, -2: 8, -1: 8, 0: 8, 1: 8, 2: 8, 3: 8, 4: 8})
}

func TestBendOf(t *testing.T) {
	cases := map[string]struct {
		s    impl.Stroke
		bend int64
	}{
		"one point":               {path(5, 5), 0},
		"one segment":             {path(5, 5, 1, 9), 0},
		"points at one place":     {path(5, 5, 5, 5, 5, 5), 0},
		"a square":                {path(0, 0, 10, 0, 10, 10, 0, 10, 0, 0), 6},
		"a square backwards":      {path(0, 0, 0, 10, 10, 10, 10, 0, 0, 0), -6},
		"there and back":          {path(0, 0, 10, 0, 0, 0), 4},
		"back and there":          {path(10, 0, 0, 0, 10, 0), 4},
		"there, back and there":   {path(0, 0, 10, 0, 0, 0, 10, 0), 8},
		"a turn of -3":            {path(0, 50, 50, 50, 0, 0), -3},
		"a turn of 3":             {path(0, 0, 50, 0, 0, 50), 3},
		"turns that cancel":       {path(0, 0, 10, 0, 10, 10, 20, 10), 0},
		"over the first sector":   {path(0, 50, 10, 40, 20, 50), 2},
		"back over the first one": {path(0, 0, 10, 10, 20, 0), -2},
		"with a rest":             {path(0, 0, 10, 0, 10, 0, 10, 10), 2},
		"with a rest, and back":   {path(0, 0, 10, 0, 10, 0, 0, 0), 4},
		"the most points":         {strokeFrom(0, impl.MaxPoints), 0},
		"the greatest":            {zigzag(), 58 * 4},
	}
	for name, c := range cases {
		is(t, name, all(impl.BendOf(c.s)), all(c.bend, impl.OK))
	}
	for first := range 8 {
		is(t, "once around", all(impl.BendOf(ringFrom(first))), all(int64(7), impl.OK))
		is(t, "once around backwards", all(impl.BendOf(backwards(ringFrom(first)))), all(int64(-7), impl.OK))
	}
	s := source(44)
	for _, p := range manyPaths(&s) {
		is(t, "any stroke", all(impl.BendOf(p)), all(bendAlong(p), impl.OK))
	}
	refusedStrokes(t, "BendOf", func(s impl.Stroke) []any { return all(impl.BendOf(s)) }, int64(0))
}

func TestStrokeArea(t *testing.T) {
	most := int64(impl.MaxCoord)
	cases := map[string]struct {
		s    impl.Stroke
		area int64
	}{
		"one point":             {path(5, 7), 0},
		"two points":            {path(5, 7, 9, 1), 0},
		"points at one place":   {path(5, 7, 5, 7, 5, 7), 0},
		"on one line":           {path(1, 1, 5, 5, 3, 3), 0},
		"a closed square":       {path(0, 0, 10, 0, 10, 10, 0, 10, 0, 0), 200},
		"a square left open":    {path(0, 0, 10, 0, 10, 10, 0, 10), 200},
		"the square backwards":  {path(0, 0, 0, 10, 10, 10, 10, 0, 0, 0), -200},
		"at another place":      {path(7, 9, 17, 9, 17, 19, 7, 19), 200},
		"from another point on": {path(17, 19, 7, 19, 7, 9, 17, 9), 200},
		"a triangle":            {path(1, 1, 4, 1, 1, 3), 6},
		"an odd number":         {path(0, 0, 1, 0, 0, 1), 1},
		"an eight":              {path(0, 0, 10, 10, 10, 0, 0, 10), 0},
		"the greatest":          {path(0, 0, most, 0, most, most, 0, most), 2 * most * most},
		"the least":             {path(0, 0, 0, most, most, most, most, 0), -2 * most * most},
		"the most points":       {strokeFrom(0, impl.MaxPoints), 0},
		"twice around":          {path(0, 0, 10, 0, 10, 10, 0, 10, 0, 0, 10, 0, 10, 10, 0, 10, 0, 0), 400},
	}
	for name, c := range cases {
		is(t, name, all(impl.StrokeArea(c.s)), all(c.area, impl.OK))
	}
	s := source(45)
	for _, p := range manyPaths(&s) {
		o := place(s.below(4096), s.below(4096))
		is(t, "any stroke", all(impl.StrokeArea(p)), all(areaFrom(o, p), impl.OK))
	}
	refusedStrokes(t, "StrokeArea", func(s impl.Stroke) []any { return all(impl.StrokeArea(s)) }, int64(0))
}

func TestStraightOf(t *testing.T) {
	cases := map[string]struct {
		s        impl.Stroke
		straight int64
	}{
		"one point":               {path(5, 7), 1000},
		"points at one place":     {path(5, 7, 5, 7, 5, 7), 1000},
		"one segment":             {path(5, 7, 100, 1), 1000},
		"on one line":             {path(0, 0, 10, 0, 25, 0), 1000},
		"rounded to more":         {path(0, 0, 1, 1, 2, 2), 1000},
		"a rest at the end":       {path(0, 0, 10, 0, 10, 0), 1000},
		"rounded down":            {path(0, 0, 3, 4, 0, 8), 800},
		"two sides of a triangle": {path(0, 0, 3, 0, 3, 4), 714},
		"two sides of a square":   {path(0, 0, 10, 0, 10, 10), 706},
		"closed":                  {path(0, 0, 10, 0, 10, 10, 0, 10, 0, 0), 0},
		"closed, two segments":    {path(3, 3, 9, 9, 3, 3), 0},
		"nearly closed":           {path(0, 0, 2000, 0, 0, 0, 1, 0), 0},
		"less than closed":        {path(0, 0, 400, 0, 1, 0), 1},
		"there, back and there":   {path(0, 0, 10, 0, 0, 0, 10, 0), 333},
		"less than 1000":          {path(0, 0, 1500, 0, 1499, 0), 998},
		"the most points":         {strokeFrom(0, impl.MaxPoints), 1000},
		"as long as it may be":    {zigzag(), 16},
	}
	for name, c := range cases {
		is(t, name, all(impl.StraightOf(c.s)), all(c.straight, impl.OK))
	}
	s := source(46)
	for _, p := range manyPaths(&s) {
		is(t, "any stroke", all(impl.StraightOf(p)), all(straightness(p), impl.OK))
	}
	refusedStrokes(t, "StraightOf", func(s impl.Stroke) []any { return all(impl.StraightOf(s)) }, int64(0))
}

func TestNearestPoint(t *testing.T) {
	cases := map[string]struct {
		s    impl.Stroke
		p    impl.Point
		want int64
	}{
		"one point":                     {path(5, 5), place(4095, 4095), 0},
		"the first one":                 {path(0, 0, 10, 0, 20, 0), place(4, 3), 0},
		"in the middle":                 {path(0, 0, 10, 0, 20, 0), place(14, 3), 1},
		"the last one":                  {path(0, 0, 10, 0, 20, 0), place(16, 3), 2},
		"the first one of two":          {path(0, 0, 10, 0, 20, 0), place(5, 9), 0},
		"a later one of two":            {path(0, 0, 10, 0, 20, 0), place(15, 9), 1},
		"all equally near":              {path(0, 5, 5, 0, 10, 5, 5, 10), place(5, 5), 0},
		"two later ones":                {path(0, 0, 5, 0, 10, 5, 5, 10), place(5, 5), 1},
		"equal by other differences":    {path(90, 90, 7, 24, 24, 7, 25, 0, 15, 20), place(0, 0), 1},
		"at the place of a point":       {path(0, 0, 10, 0, 20, 0), place(10, 0), 1},
		"at the place of several":       {path(0, 0, 10, 0, 10, 0, 20, 0, 10, 0), place(10, 0), 1},
		"at the place of the last":      {path(9, 0, 8, 0, 7, 0), place(7, 0), 2},
		"points at one place":           {path(5, 5, 5, 5, 5, 5), place(9, 9), 0},
		"at that place":                 {path(5, 5, 5, 5, 5, 5), place(5, 5), 0},
		"a closed stroke":               {path(1, 1, 9, 1, 9, 9, 1, 1), place(0, 0), 0},
		"near one segment, yet no end":  {path(0, 0, 100, 0, 45, 20), place(50, 0), 2},
		"by squares, not by both parts": {path(0, 7, 5, 5), place(0, 0), 0},
		"by both parts":                 {path(0, 8, 5, 5), place(0, 0), 1},
		"far away":                      {path(0, 0, 1, 0, 0, 1), place(impl.MaxCoord, impl.MaxCoord), 1},
		"the time does not count":       {path(0, 0, 10, 0), point(2, 0, impl.MaxTime), 0},
		"the most points":               {strokeFrom(0, impl.MaxPoints), place(60, 218), 59},
		"the corner":                    {zigzag(), place(impl.MaxCoord, impl.MaxCoord), 1},
	}
	for name, c := range cases {
		is(t, name, all(impl.NearestPoint(c.s, c.p)), all(c.want, impl.OK))
	}
	s := source(47)
	for _, p := range manyPaths(&s) {
		for range 20 {
			q := place(s.below(10), s.below(10))
			is(t, "near the corner", all(impl.NearestPoint(p, q)), all(nearestTo(p, q), impl.OK))
			q = place(s.below(4096), s.below(4096))
			is(t, "anywhere", all(impl.NearestPoint(p, q)), all(nearestTo(p, q), impl.OK))
		}
	}
}

func TestNearestPointErrors(t *testing.T) {
	refusedStrokes(t, "NearestPoint", func(s impl.Stroke) []any { return all(impl.NearestPoint(s, place(5, 6))) }, int64(0))
	for name, p := range wrongPoints() {
		is(t, name, all(impl.NearestPoint(path(1, 1, 9, 9), p)), all(int64(0), impl.ErrInvalid))
		is(t, name+", and no points", all(impl.NearestPoint(path(), p)), all(int64(0), impl.ErrInvalid))
	}
	for _, p := range edgePoints() {
		is(t, "at the limits", all(impl.NearestPoint(path(p.X, p.Y), p)), all(int64(0), impl.OK))
	}
}
