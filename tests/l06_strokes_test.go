package tests

import (
	"slices"
	"strconv"
	"testing"

	"loop.example/g00918/impl"
)

func TestReverseStroke(t *testing.T) {
	cases := map[string][2]impl.Stroke{
		"one point":       {stroke(point(7, 8, 9)), stroke(point(7, 8, 9))},
		"two points":      {stroke(point(1, 2, 3), point(4, 5, 60)), stroke(point(4, 5, 3), point(1, 2, 60))},
		"three points":    {stroke(point(1, 2, 10), point(3, 4, 11), point(5, 6, 20)), stroke(point(5, 6, 10), point(3, 4, 19), point(1, 2, 20))},
		"the whole time":  {stroke(point(1, 2, 0), point(3, 4, 1), point(5, 6, impl.MaxTime)), stroke(point(5, 6, 0), point(3, 4, impl.MaxTime-1), point(1, 2, impl.MaxTime))},
		"at one place":    {stroke(point(1, 2, 0), point(1, 2, 7), point(1, 2, 9)), stroke(point(1, 2, 0), point(1, 2, 2), point(1, 2, 9))},
		"at the last":     {stroke(point(1, 2, impl.MaxTime)), stroke(point(1, 2, impl.MaxTime))},
		"not a half turn": {path(1, 2, 3, 4, 5, 6, 7, 8), path(7, 8, 5, 6, 3, 4, 1, 2)},
	}
	for name, c := range cases {
		is(t, name, all(impl.ReverseStroke(c[0])), all(c[1], impl.OK))
		is(t, name+", and back", all(impl.ReverseStroke(c[1])), all(c[0], impl.OK))
	}
	s := source(76)
	for _, p := range manyTimedPaths(&s) {
		is(t, "any stroke", all(impl.ReverseStroke(p)), all(reverseAlong(p), impl.OK))
	}
	refusedStrokes(t, "ReverseStroke", func(s impl.Stroke) []any { return all(impl.ReverseStroke(s)) }, impl.Stroke{})
}

// pick returns the stroke with some of the points.
func pick(s impl.Stroke, places ...int) impl.Stroke {
	var some impl.Stroke
	for _, at := range places {
		some.Points = append(some.Points, s.Points[at])
	}
	return some
}

func TestThinStroke(t *testing.T) {
	line := path(0, 0, 4, 0, 8, 0, 12, 0, 13, 0)
	diagonal := path(0, 0, 8, 4, 50, 50)
	cases := map[string]struct {
		s    impl.Stroke
		step int64
		kept []int
	}{
		"one point":                     {path(7, 8), 5, []int{0}},
		"one point, step 0":             {path(7, 8), 0, []int{0}},
		"one point, the greatest step":  {path(7, 8), impl.MaxStep, []int{0}},
		"two points":                    {path(0, 0, 1, 0), impl.MaxStep, []int{0, 1}},
		"two points at one place":       {path(5, 5, 5, 5), 1, []int{0, 1}},
		"step 0":                        {line, 0, []int{0, 1, 2, 3, 4}},
		"step 0, at one place":          {path(5, 5, 5, 5, 5, 5), 0, []int{0, 1, 2}},
		"step 1, at one place":          {path(5, 5, 5, 5, 5, 5), 1, []int{0, 2}},
		"each one is exactly as far":    {line, 4, []int{0, 1, 2, 3, 4}},
		"each one is nearer by one":     {line, 5, []int{0, 2, 4}},
		"from the last one returned":    {line, 8, []int{0, 2, 4}},
		"one below for the third":       {line, 9, []int{0, 3, 4}},
		"the last but one is too near":  {line, 13, []int{0, 4}},
		"farther than all":              {line, impl.MaxStep, []int{0, 4}},
		"exactly as far":                {path(0, 0, 3, 4, 50, 50), 5, []int{0, 1, 2}},
		"exactly 9":                     {path(0, 0, 9, 0, 50, 50), 9, []int{0, 1, 2}},
		"a length of 1 below 9":         {diagonal, 9, []int{0, 2}},
		"the same with 8":               {diagonal, 8, []int{0, 1, 2}},
		"straight, not along":           {path(0, 0, 10, 0, 0, 0, 5, 5), 11, []int{0, 3}},
		"back at the first":             {path(0, 0, 20, 0, 0, 0, 0, 1), 11, []int{0, 1, 2, 3}},
		"the greatest step, as far":     {path(0, 0, 1000, 0, 1001, 0), impl.MaxStep, []int{0, 1, 2}},
		"the greatest step, not as far": {path(0, 0, 999, 0, 1001, 0), impl.MaxStep, []int{0, 2}},
		"the last one is far too":       {path(0, 0, 20, 0, 40, 0), 10, []int{0, 1, 2}},
		"upwards and to the left":       {path(50, 50, 47, 46, 40, 40), 5, []int{0, 1, 2}},
	}
	for name, c := range cases {
		is(t, name, all(impl.ThinStroke(c.s, c.step)), all(pick(c.s, c.kept...), impl.OK))
	}
	length, _ := impl.SegmentLength(diagonal.Points[0], diagonal.Points[1])
	is(t, "one below", length, int64(9*impl.LengthScale-1))
	s := source(77)
	for _, p := range manyTimedPaths(&s) {
		for _, step := range []int64{0, 1, 2, 3, 5, 20, 400, 999, impl.MaxStep, s.below(impl.MaxStep)} {
			is(t, "any stroke", all(impl.ThinStroke(p, step)), all(thinAlong(p, step), impl.OK))
		}
	}
}

func TestThinStrokeErrors(t *testing.T) {
	for _, step := range append(extremes(), -1, -2, impl.MaxStep+1, 1<<60, -1<<60) {
		for _, s := range []impl.Stroke{path(0, 0, 30, 0), path(7, 8)} {
			is(t, pair(step, 0), all(impl.ThinStroke(s, step)), all(impl.Stroke{}, impl.ErrRange))
		}
		for name, bad := range wrongStrokes() {
			is(t, name+" "+pair(step, 0), all(impl.ThinStroke(bad, step)), all(impl.Stroke{}, impl.ErrInvalid))
		}
	}
	refusedStrokes(t, "ThinStroke", func(s impl.Stroke) []any { return all(impl.ThinStroke(s, 0)) }, impl.Stroke{})
}

func TestSmoothStroke(t *testing.T) {
	most := int64(impl.MaxCoord)
	cases := map[string][2]impl.Stroke{
		"one point":           {path(7, 8), path(7, 8)},
		"two points":          {path(7, 8, 100, 200), path(7, 8, 100, 200)},
		"three points":        {path(0, 0, 4, 0, 20, 8), path(0, 0, 7, 2, 20, 8)},
		"the ends stay":       {path(0, 100, 100, 0, 0, 100), path(0, 100, 50, 50, 0, 100)},
		"on one line":         {path(0, 0, 5, 10, 10, 20), path(0, 0, 5, 10, 10, 20)},
		"points at one place": {path(7, 8, 7, 8, 7, 8), path(7, 8, 7, 8, 7, 8)},
		// With smoothed neighbours, the third point would be {2 0}, and with one behind it {3 0}.
		"all before smoothing": {path(0, 0, 0, 0, 8, 0, 0, 0, 0, 0), path(0, 0, 2, 0, 4, 0, 2, 0, 0, 0)},
		"neighbours in Y":      {path(0, 0, 0, 8, 0, 0, 0, 0), path(0, 0, 0, 4, 0, 2, 0, 0)},
		"at the limits":        {path(most, most, most, most, most, most), path(most, most, most, most, most, most)},
		"from limit to limit":  {path(0, most, most, 0, 0, most), path(0, most, 2048, 2048, 0, most)},
		"times stay":           {timed(path(0, 0, 4, 0, 20, 8), 3, 4, 900), timed(path(0, 0, 7, 2, 20, 8), 3, 4, 900)},
	}
	for name, c := range cases {
		is(t, name, all(impl.SmoothStroke(c[0])), all(c[1], impl.OK))
	}
	s := source(78)
	for _, p := range manyTimedPaths(&s) {
		is(t, "any stroke", all(impl.SmoothStroke(p)), all(smoothAlong(p), impl.OK))
	}
	refusedStrokes(t, "SmoothStroke", func(s impl.Stroke) []any { return all(impl.SmoothStroke(s)) }, impl.Stroke{})
}

// TestSmoothStrokeInTheMiddle has sums that leave each remainder by 4.
func TestSmoothStrokeInTheMiddle(t *testing.T) {
	for sum, want := range []int64{0, 0, 1, 1, 1, 1, 2, 2, 2, 2, 3, 3, 3} {
		n := int64(sum)
		for own := range n/2 + 1 {
			rest := n - 2*own
			for a := range rest + 1 {
				name := strconv.Itoa(sum) + " " + pair(a, own)
				is(t, "X of "+name, all(impl.SmoothStroke(path(a, 9, own, 9, rest-a, 9))), all(path(a, 9, want, 9, rest-a, 9), impl.OK))
				is(t, "Y of "+name, all(impl.SmoothStroke(path(9, a, 9, own, 9, rest-a))), all(path(9, a, 9, want, 9, rest-a), impl.OK))
			}
		}
	}
}

func TestLongestPause(t *testing.T) {
	four := path(0, 0, 4, 0, 20, 8, 30, 0)
	cases := map[string]struct {
		s    impl.Stroke
		want int64
	}{
		"two points":            {path(1, 1, 2, 2), 0},
		"two at the next times": {timed(path(1, 1, 2, 2), impl.MaxTime-1, impl.MaxTime), 0},
		"the first":             {timed(four, 0, 10, 15, 20), 0},
		"in the middle":         {timed(four, 0, 5, 15, 20), 1},
		"the last":              {timed(four, 0, 5, 10, 90), 2},
		"all equal":             {timed(four, 3, 4, 5, 6), 0},
		"the first two equal":   {timed(four, 0, 9, 18, 20), 0},
		"the last two equal":    {timed(four, 0, 2, 11, 20), 1},
		"the ends equal":        {timed(four, 0, 9, 10, 19), 0},
		"by one":                {timed(four, 0, 9, 18, 28), 2},
		"the whole time":        {atMostTimes(), 1},
		"at one place":          {timed(path(5, 5, 5, 5, 5, 5), 0, 1, 9), 1},
		"the most points":       {strokeFrom(0, impl.MaxPoints), 0},
	}
	for name, c := range cases {
		is(t, name, all(impl.LongestPause(c.s)), all(c.want, impl.OK))
	}
	s := source(79)
	for _, p := range manyTimedPaths(&s) {
		if len(p.Points) > 1 {
			is(t, "any stroke", all(impl.LongestPause(p)), all(pauseAlong(p), impl.OK))
		} else {
			is(t, "one point", all(impl.LongestPause(p)), all(int64(0), impl.ErrState))
		}
	}
	for _, p := range edgePoints() {
		is(t, "one point", all(impl.LongestPause(stroke(p))), all(int64(0), impl.ErrState))
	}
	refusedStrokes(t, "LongestPause", func(s impl.Stroke) []any { return all(impl.LongestPause(s)) }, int64(0))
}

func TestSpeedsOf(t *testing.T) {
	cases := map[string]struct {
		s    impl.Stroke
		want []int64
	}{
		"one point":            {path(7, 8), nil},
		"two points":           {timed(path(0, 0, 4, 0), 0, 10), row(6400)},
		"as quick as may be":   {timed(path(0, 0, impl.MaxCoord, impl.MaxCoord), 5, 6), row(92659000)},
		"as slow as may be":    {timed(path(0, 0, 1, 0), 0, impl.MaxTime), row(0)},
		"exactly 1":            {timed(path(0, 0, 1, 0), 0, 16000), row(1)},
		"less than 1":          {timed(path(0, 0, 1, 0), 0, 16001), row(0)},
		"exactly 2":            {timed(path(0, 0, 0, 1), 1, 8001), row(2)},
		"less than 2":          {timed(path(0, 0, 0, 1), 0, 8001), row(1)},
		"rounded down":         {timed(path(0, 0, 1, 0), 0, 7), row(2285)},
		"no length":            {timed(path(5, 5, 5, 5), 0, 3), row(0)},
		"several":              {timed(path(0, 0, 3, 4, 3, 4, 0, 0), 0, 10, 20, 25), row(8000, 0, 16000)},
		"lengths rounded down": {timed(path(0, 0, 1, 1), 0, 1), row(22000)},
		"the most points":      {zigzag(), slices.Repeat(row(92659000), 59)},
	}
	for name, c := range cases {
		is(t, name, all(impl.SpeedsOf(c.s)), all(c.want, impl.OK))
	}
	s := source(80)
	for _, p := range manyTimedPaths(&s) {
		is(t, "any stroke", all(impl.SpeedsOf(p)), all(speedsAlong(p), impl.OK))
	}
	refusedStrokes(t, "SpeedsOf", func(s impl.Stroke) []any { return all(impl.SpeedsOf(s)) }, []int64{})
}
