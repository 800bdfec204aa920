package tests

import (
	"slices"
	"strconv"
	"testing"

	"loop.example/g00918/impl"
)

func TestLimitsOfResampling(t *testing.T) {
	is(t, "limits", []int64{impl.MaxFeats, impl.MaxStep}, []int64{24, 1000})
}

func TestSameSpots(t *testing.T) {
	list := spots(1, 2, 3, 4)
	same := map[string][2][]impl.Spot{
		"no places":       {nil, nil},
		"nil and empty":   {nil, {}},
		"empty and nil":   {{}, nil},
		"equal ones":      {list, spots(1, 2, 3, 4)},
		"the same memory": {list, list},
		"not valid":       {spots(leastInt, greatestInt), spots(leastInt, greatestInt)},
		"unused capacity": {list, roomy(list)},
	}
	for name, lists := range same {
		is(t, name, impl.SameSpots(lists[0], lists[1]), true)
	}
	for name, other := range map[string][]impl.Spot{
		"none": nil, "empty": {}, "fewer": spots(1, 2), "more": spots(1, 2, 3, 4, 0, 0), "the first X": spots(0, 2, 3, 4), "the first Y": spots(1, 3, 3, 4),
		"the last X": spots(1, 2, 4, 4), "the last Y": spots(1, 2, 3, 5), "exchanged parts": spots(2, 1, 4, 3), "another order": spots(3, 4, 1, 2),
		"not valid": spots(leastInt, 2, 3, 4), "greatest": spots(1, 2, 3, greatestInt),
	} {
		is(t, name, all(impl.SameSpots(list, other), impl.SameSpots(other, list)), all(false, false))
	}
}

func TestSpotsOf(t *testing.T) {
	most := int64(impl.MaxCoord)
	cases := map[string]struct {
		s    impl.Stroke
		want []impl.Spot
	}{
		"one point":           {path(7, 8), spots(7, 8)},
		"two points":          {path(0, 0, 30, 0), spots(0, 0, 30, 0)},
		"points at one place": {path(5, 6, 5, 6, 5, 6), spots(5, 6, 5, 6, 5, 6)},
		"in their order":      {path(9, 1, 3, 4, 8, 2), spots(9, 1, 3, 4, 8, 2)},
		"the corners":         {path(0, 0, most, 0, most, most, 0, most), spots(0, 0, most, 0, most, most, 0, most)},
	}
	for name, c := range cases {
		is(t, name, all(impl.SpotsOf(c.s)), all(c.want, impl.OK))
	}
	s := source(70)
	for _, p := range manyTimedPaths(&s) {
		is(t, "any stroke", all(impl.SpotsOf(p)), all(placesAlong(p), impl.OK))
	}
	refusedStrokes(t, "SpotsOf", func(s impl.Stroke) []any { return all(impl.SpotsOf(s)) }, []impl.Spot{})
}

func TestArcsOf(t *testing.T) {
	var far []int64
	for at := range int64(impl.MaxPoints) {
		far = append(far, at*92659)
	}
	cases := map[string]struct {
		s    impl.Stroke
		want []int64
	}{
		"one point":            {path(7, 8), row(0)},
		"two points":           {path(0, 0, 3, 4), row(0, 80)},
		"a rest at the end":    {path(0, 0, 3, 4, 3, 4), row(0, 80, 80)},
		"a rest at first":      {path(3, 4, 3, 4, 0, 0), row(0, 0, 80)},
		"a rest in the middle": {path(0, 0, 3, 4, 3, 4, 3, 4, 6, 8), row(0, 80, 80, 80, 160)},
		"points at one place":  {path(5, 6, 5, 6, 5, 6), row(0, 0, 0)},
		"there and back":       {path(0, 0, 3, 4, 0, 0), row(0, 80, 160)},
		"rounded one by one":   {path(0, 0, 1, 1, 2, 2, 3, 3), row(0, 22, 44, 66)},
		"as long as may be":    {zigzag(), far},
	}
	for name, c := range cases {
		is(t, name, all(impl.ArcsOf(c.s)), all(c.want, impl.OK))
	}
	s := source(71)
	for _, p := range manyTimedPaths(&s) {
		is(t, "any stroke", all(impl.ArcsOf(p)), all(arcsAlong(p), impl.OK))
	}
	refusedStrokes(t, "ArcsOf", func(s impl.Stroke) []any { return all(impl.ArcsOf(s)) }, []int64{})
}

func TestSpotAt(t *testing.T) {
	corner := path(0, 0, 10, 0, 10, 10)
	cases := map[string]struct {
		s           impl.Stroke
		part, parts int64
		want        impl.Spot
	}{
		"the example":               {path(0, 0, 30, 0), 1, 3, spot(10, 0)},
		"its beginning":             {path(0, 0, 30, 0), 0, 3, spot(0, 0)},
		"its end":                   {path(0, 0, 30, 0), 3, 3, spot(30, 0)},
		"one part, beginning":       {path(1, 2, 30, 40), 0, 1, spot(1, 2)},
		"one part, end":             {path(1, 2, 30, 40), 1, 1, spot(30, 40)},
		"the most parts, beginning": {path(1, 2, 30, 40), 0, impl.MaxStep, spot(1, 2)},
		"the most parts, end":       {path(1, 2, 30, 40), impl.MaxStep, impl.MaxStep, spot(30, 40)},
		"all but one part":          {path(0, 0, 2000, 0), impl.MaxStep - 1, impl.MaxStep, spot(1998, 0)},
		"the end of a segment":      {corner, 1, 2, spot(10, 0)},
		"before the end of it":      {corner, 9, 20, spot(9, 0)},
		"behind the end of it":      {corner, 11, 20, spot(10, 1)},
		"backwards":                 {path(30, 30, 0, 30), 1, 3, spot(20, 30)},
		"upwards":                   {path(30, 30, 30, 0), 2, 3, spot(30, 10)},
		"there and back":            {path(0, 0, 10, 0, 0, 0), 3, 4, spot(5, 0)},
		"a rest at first":           {path(1, 1, 1, 1, 1, 1, 5, 1), 0, 4, spot(1, 1)},
		"behind a rest at first":    {path(1, 1, 1, 1, 1, 1, 5, 1), 1, 4, spot(2, 1)},
		"a rest at the end":         {path(1, 1, 5, 1, 5, 1, 5, 1), 4, 4, spot(5, 1)},
		"before a rest at the end":  {path(1, 1, 5, 1, 5, 1, 5, 1), 3, 4, spot(4, 1)},
		"at a rest":                 {path(1, 1, 5, 1, 5, 1, 5, 1, 5, 5), 1, 2, spot(5, 1)},
		"before a rest":             {path(1, 1, 5, 1, 5, 1, 5, 1, 5, 5), 3, 8, spot(4, 1)},
		"behind a rest":             {path(1, 1, 5, 1, 5, 1, 5, 1, 5, 5), 5, 8, spot(5, 2)},
		"rests everywhere":          {path(1, 1, 1, 1, 5, 1, 5, 1, 5, 5, 5, 5), 3, 4, spot(5, 3)},
		"by lengths, not by points": {path(0, 0, 1, 0, 2, 0, 100, 0), 1, 2, spot(50, 0)},
		"lengths rounded down":      {path(0, 0, 2, 2, 4, 4), 1, 2, spot(2, 2)},
		"different lengths":         {path(0, 0, 3, 4, 3, 10), 5, 11, spot(3, 4)},
		"a part of a diagonal":      {path(0, 0, 30, 40), 1, 10, spot(3, 4)},
		"both parts go back":        {path(30, 40, 0, 0), 1, 10, spot(27, 36)},
		"times do not count":        {timed(corner, 0, 5, impl.MaxTime), 1, 2, spot(10, 0)},
		"as long as may be":         {zigzag(), 1, 59, spot(impl.MaxCoord, impl.MaxCoord)},
		"as far as may be":          {path(0, impl.MaxCoord, impl.MaxCoord, 0), 1, 3, spot(1365, 2730)},
	}
	for name, c := range cases {
		is(t, name, all(impl.SpotAt(c.s, c.part, c.parts)), all(c.want, impl.OK))
	}
	refusedStrokes(t, "SpotAt", func(s impl.Stroke) []any { return all(impl.SpotAt(s, 1, 2)) }, impl.Spot{})
}

// TestSpotAtInTheMiddle has places that are exactly in the middle between two integers, and next to it.
func TestSpotAtInTheMiddle(t *testing.T) {
	there, back := path(0, 5, 1, 5), path(1, 5, 0, 5)
	down, up := path(5, 0, 5, 1), path(5, 1, 5, 0)
	for part, x := range map[int64][2]int64{0: {0, 1}, 1: {0, 1}, 499: {0, 1}, 500: {1, 1}, 501: {1, 0}, 999: {1, 0}, 1000: {1, 0}} {
		name := strconv.FormatInt(part, 10)
		is(t, "to the right "+name, all(impl.SpotAt(there, part, 1000)), all(spot(x[0], 5), impl.OK))
		is(t, "to the left "+name, all(impl.SpotAt(back, part, 1000)), all(spot(x[1], 5), impl.OK))
		is(t, "downwards "+name, all(impl.SpotAt(down, part, 1000)), all(spot(5, x[0]), impl.OK))
		is(t, "upwards "+name, all(impl.SpotAt(up, part, 1000)), all(spot(5, x[1]), impl.OK))
	}
	is(t, "half of 3", all(impl.SpotAt(path(0, 3, 3, 0), 1, 2)), all(spot(2, 2), impl.OK))
	is(t, "half of 3 backwards", all(impl.SpotAt(path(3, 0, 0, 3), 1, 2)), all(spot(2, 2), impl.OK))
	is(t, "a quarter of 10", all(impl.SpotAt(path(10, 0, 0, 10), 1, 4)), all(spot(8, 3), impl.OK))
	is(t, "three quarters of 10", all(impl.SpotAt(path(10, 0, 0, 10), 3, 4)), all(spot(3, 8), impl.OK))
	is(t, "behind another segment", all(impl.SpotAt(path(9, 4, 9, 1, 8, 1), 7, 8)), all(spot(9, 1), impl.OK))
}

// TestSpotAtWithoutALength has strokes in which no segment has a length.
func TestSpotAtWithoutALength(t *testing.T) {
	for _, s := range []impl.Stroke{path(7, 8), path(7, 8, 7, 8), timed(path(7, 8, 7, 8, 7, 8), 0, 9, impl.MaxTime)} {
		for _, parts := range []int64{1, 2, 3, impl.MaxStep} {
			for _, part := range []int64{0, 1, parts / 2, parts} {
				is(t, pair(part, parts), all(impl.SpotAt(s, part, parts)), all(spot(7, 8), impl.OK))
			}
		}
	}
	s := source(72)
	is(t, "the most points at one place", all(impl.SpotAt(randomPath(&s, 1, impl.MaxPoints), 1, 2)), all(spot(0, 0), impl.OK))
}

// TestSpotAtOfAnyStroke has all parts of some numbers of parts.
func TestSpotAtOfAnyStroke(t *testing.T) {
	s := source(73)
	for _, p := range manyTimedPaths(&s) {
		for _, parts := range []int64{1, 2, 3, 7, 16, 59, 64} {
			for part := range parts + 1 {
				is(t, "any part "+pair(part, parts), all(impl.SpotAt(p, part, parts)), all(spotAlong(p, part, parts), impl.OK))
			}
		}
		for _, parts := range []int64{impl.MaxStep, impl.MaxStep - 1, 1 + s.below(impl.MaxStep)} {
			for _, part := range []int64{0, 1, s.below(parts + 1), s.below(parts + 1), parts - 1, parts} {
				is(t, "any part "+pair(part, parts), all(impl.SpotAt(p, part, parts)), all(spotAlong(p, part, parts), impl.OK))
			}
		}
	}
}

// TestSpotAtTheEndsOfSegments has the points of strokes, at parts that are exactly their arcs.
func TestSpotAtTheEndsOfSegments(t *testing.T) {
	s := source(74)
	for range 200 {
		x, parts, last := int64(0), int64(0), 1+s.below(30)
		made := path(0, 9)
		var ends []int64
		for at := range last {
			step := s.below(30)
			x, parts = x+step, parts+step
			made.Points = append(made.Points, point(x, 9, at+1))
			ends = append(ends, parts)
		}
		for _, end := range ends {
			if parts > 0 {
				is(t, "at a point", all(impl.SpotAt(made, end, parts)), all(spot(end, 9), impl.OK))
			}
		}
	}
}

func TestSpotAtErrors(t *testing.T) {
	s := path(0, 0, 30, 0)
	wrong := [][2]int64{
		{0, 0}, {1, 0}, {0, -1}, {-1, -1}, {-1, 3}, {4, 3}, {2, 1}, {-1, 1}, {0, impl.MaxStep + 1}, {1, impl.MaxStep + 1},
		{impl.MaxStep + 1, impl.MaxStep}, {impl.MaxStep + 1, impl.MaxStep + 1}, {-1, impl.MaxStep}, {-1, 0},
	}
	for _, n := range extremes() {
		wrong = append(wrong, [2]int64{n, 3}, [2]int64{n, n}, [2]int64{0, n}, [2]int64{1, n}, [2]int64{n, 1}, [2]int64{n, impl.MaxStep}, [2]int64{n, -n})
	}
	for _, w := range wrong {
		is(t, pair(w[0], w[1]), all(impl.SpotAt(s, w[0], w[1])), all(impl.Spot{}, impl.ErrRange))
		is(t, "of one point "+pair(w[0], w[1]), all(impl.SpotAt(path(7, 8), w[0], w[1])), all(impl.Spot{}, impl.ErrRange))
		for name, bad := range wrongStrokes() {
			is(t, name+" "+pair(w[0], w[1]), all(impl.SpotAt(bad, w[0], w[1])), all(impl.Spot{}, impl.ErrInvalid))
		}
	}
}

func TestResample(t *testing.T) {
	cases := map[string]struct {
		s    impl.Stroke
		n    int64
		want []impl.Spot
	}{
		"the ends":             {path(1, 2, 30, 40), 2, spots(1, 2, 30, 40)},
		"the example":          {path(0, 0, 30, 0), 4, spots(0, 0, 10, 0, 20, 0, 30, 0)},
		"around a corner":      {path(0, 0, 10, 0, 10, 10), 5, spots(0, 0, 5, 0, 10, 0, 10, 5, 10, 10)},
		"over a corner":        {path(0, 0, 10, 0, 10, 10), 4, spots(0, 0, 7, 0, 10, 3, 10, 10)},
		"back to the first":    {path(0, 0, 10, 0, 0, 0), 3, spots(0, 0, 10, 0, 0, 0)},
		"the ends of a circle": {path(3, 3, 9, 3, 3, 3), 2, spots(3, 3, 3, 3)},
		"one point":            {path(7, 8), 2, spots(7, 8, 7, 8)},
		"one point, more":      {path(7, 8), 5, slices.Repeat(spots(7, 8), 5)},
		"one point, the most":  {path(7, 8), impl.MaxFeats, slices.Repeat(spots(7, 8), impl.MaxFeats)},
		"points at one place":  {path(7, 8, 7, 8, 7, 8), 3, slices.Repeat(spots(7, 8), 3)},
		"rests everywhere":     {path(1, 1, 1, 1, 5, 1, 5, 1, 5, 5, 5, 5), 5, spots(1, 1, 3, 1, 5, 1, 5, 3, 5, 5)},
		"rounded":              {path(0, 3, 3, 0), 3, spots(0, 3, 2, 2, 3, 0)},
		"more than points":     {path(0, 0, 1, 0), 4, spots(0, 0, 0, 0, 1, 0, 1, 0)},
	}
	for name, c := range cases {
		is(t, name, all(impl.Resample(c.s, c.n)), all(c.want, impl.OK))
	}
	s := source(75)
	for _, p := range manyTimedPaths(&s) {
		for n := int64(2); n <= impl.MaxFeats; n++ {
			var want []impl.Spot
			for part := range n {
				want = append(want, spotAlong(p, part, n-1))
			}
			is(t, "any stroke", all(impl.Resample(p, n)), all(want, impl.OK))
		}
	}
}

func TestResampleErrors(t *testing.T) {
	for _, n := range append(extremes(), 1, 0, -1, -2, impl.MaxFeats+1, impl.MaxStep) {
		for _, s := range []impl.Stroke{path(0, 0, 30, 0), path(7, 8)} {
			is(t, pair(n, 0), all(impl.Resample(s, n)), all([]impl.Spot{}, impl.ErrRange))
		}
		for name, bad := range wrongStrokes() {
			is(t, name+" "+pair(n, 0), all(impl.Resample(bad, n)), all([]impl.Spot{}, impl.ErrInvalid))
		}
	}
	refusedStrokes(t, "Resample", func(s impl.Stroke) []any { return all(impl.Resample(s, 2)) }, []impl.Spot{})
}
