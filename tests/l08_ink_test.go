package tests

import (
	"slices"
	"testing"

	"loop.example/g00918/impl"
)

// featCase is ink, and its features with n for each stroke.
type featCase struct {
	i    impl.Ink
	n    int64
	want []impl.Feat
}

func checkFeats(t *testing.T, cases map[string]featCase) {
	t.Helper()
	for name, c := range cases {
		is(t, name, all(impl.FeatsOf(c.i, c.n)), all(c.want, impl.OK))
	}
}

func TestFeatsOfOneStroke(t *testing.T) {
	most := int64(impl.MaxCoord)
	corner := path(0, 0, 10, 0, 10, 10)
	checkFeats(t, map[string]featCase{
		"the example":           {inkOf(path(10, 10, 30, 10)), 2, feats(0, 127, 0, 255, 127, 0)},
		"to the left":           {inkOf(path(30, 10, 10, 10)), 2, feats(255, 127, 4, 0, 127, 4)},
		"downwards":             {inkOf(path(10, 10, 10, 30)), 2, feats(127, 0, 2, 127, 255, 2)},
		"upwards":               {inkOf(path(10, 30, 10, 10)), 2, feats(127, 255, 6, 127, 0, 6)},
		"more places":           {inkOf(path(10, 10, 30, 10)), 5, feats(0, 127, 0, 64, 127, 0, 128, 127, 0, 191, 127, 0, 255, 127, 0)},
		"one point":             {inkOf(path(5, 5)), 2, feats(127, 127, 0, 127, 127, 0)},
		"the first point":       {inkOf(path(0, 0)), 3, slices.Repeat(feats(127, 127, 0), 3)},
		"the last point":        {inkOf(path(most, most)), impl.MaxFeats, slices.Repeat(feats(127, 127, 0), impl.MaxFeats)},
		"points at one place":   {inkOf(path(5, 7, 5, 7, 5, 7)), 4, slices.Repeat(feats(127, 127, 0), 4)},
		"the last place":        {inkOf(corner), 3, feats(0, 0, 0, 255, 0, 2, 255, 255, 2)},
		"around a corner":       {inkOf(corner), 5, feats(0, 0, 0, 128, 0, 0, 255, 0, 2, 255, 128, 2, 255, 255, 2)},
		"over a corner":         {inkOf(corner), 4, feats(0, 0, 0, 179, 0, 1, 255, 77, 2, 255, 255, 2)},
		"by places, not points": {inkOf(corner), 2, feats(0, 0, 1, 255, 255, 1)},
		"there and back":        {inkOf(path(3, 3, 9, 3, 3, 3)), 3, feats(0, 127, 0, 255, 127, 4, 0, 127, 4)},
		"down and up":           {inkOf(path(3, 3, 3, 9, 3, 3)), 3, feats(127, 0, 2, 127, 255, 6, 127, 0, 6)},
		"back to the first":     {inkOf(path(3, 3, 3, 9, 3, 3)), 2, feats(127, 0, 0, 127, 0, 0)},
		"a half at the top":     {inkOf(path(0, 0, 100, 50)), 2, feats(0, 64, 1, 255, 192, 1)},
		"a half, the other way": {inkOf(path(50, 100, 0, 0)), 2, feats(192, 255, 5, 64, 0, 5)},
		"everything":            {inkOf(path(0, most, most, 0)), 2, feats(0, 255, 7, 255, 0, 7)},
		"rests":                 {inkOf(path(1, 1, 1, 1, 5, 1, 5, 1, 5, 5, 5, 5)), 3, feats(0, 0, 0, 255, 0, 2, 255, 255, 2)},
		"times do not count":    {ink(timed(corner, 0, 1, impl.MaxTime)), 3, feats(0, 0, 0, 255, 0, 2, 255, 255, 2)},
		"nearly flat":           {inkOf(path(0, 0, 4000, 0, 4000, 9)), 2, feats(0, 127, 0, 255, 128, 0)},
	})
}

// TestFeatsOfEqualPlaces has strokes so short that places of one stroke are equal.
func TestFeatsOfEqualPlaces(t *testing.T) {
	checkFeats(t, map[string]featCase{
		"at the beginning and the end":   {inkOf(path(1, 0, 0, 0)), 4, feats(255, 127, 0, 255, 127, 4, 0, 127, 4, 0, 127, 4)},
		"several at the beginning":       {inkOf(path(5, 1, 5, 0)), 6, feats(127, 255, 0, 127, 255, 0, 127, 255, 6, 127, 0, 6, 127, 0, 6, 127, 0, 6)},
		"in the middle":                  {inkOf(path(0, 0, 1, 0, 1, 1, 0, 1)), 7, feats(0, 0, 0, 255, 0, 0, 255, 0, 2, 255, 255, 2, 255, 255, 2, 255, 255, 4, 0, 255, 4)},
		"in the middle, other turns":     {inkOf(path(1, 1, 0, 1, 0, 0)), 5, feats(255, 255, 0, 255, 255, 4, 0, 255, 4, 0, 255, 6, 0, 0, 6)},
		"there and back, an odd number":  {inkOf(path(7, 8, 7, 9, 7, 8)), 3, feats(127, 0, 2, 127, 255, 6, 127, 0, 6)},
		"there and back, an even number": {inkOf(path(7, 8, 7, 9, 7, 8)), 4, feats(127, 0, 2, 127, 255, 2, 127, 255, 6, 127, 0, 6)},
		"at the ends of a ring":          {inkOf(path(0, 0, 0, 8, 8, 8, 8, 0, 0, 0)), 2, feats(0, 0, 0, 0, 0, 0)},
	})
}

// TestFeatsOfSeveralStrokes has directions that are never those of another stroke, and one box for all.
func TestFeatsOfSeveralStrokes(t *testing.T) {
	most := int64(impl.MaxCoord)
	down, left, dot := path(0, 0, 0, 10), path(10, 10, 0, 10), path(5, 5)
	checkFeats(t, map[string]featCase{
		"a dot behind":              {inkOf(down, dot), 2, feats(64, 0, 2, 64, 255, 2, 192, 128, 0, 192, 128, 0)},
		"a dot before":              {inkOf(dot, down), 2, feats(192, 128, 0, 192, 128, 0, 64, 0, 2, 64, 255, 2)},
		"a dot between":             {inkOf(path(0, 0, 0, 10), dot, left), 2, feats(0, 0, 2, 0, 255, 2, 128, 128, 0, 128, 128, 0, 255, 255, 4, 0, 255, 4)},
		"the last one of the first": {inkOf(path(0, 0, 10, 0), left), 2, feats(0, 0, 0, 255, 0, 0, 255, 255, 4, 0, 255, 4)},
		"equal places at first":     {inkOf(path(0, 0, 0, 3), path(1, 3, 0, 3)), 4, feats(85, 0, 2, 85, 85, 2, 85, 170, 2, 85, 255, 2, 170, 255, 0, 170, 255, 4, 85, 255, 4, 85, 255, 4)},
		"one where the other ends":  {inkOf(path(0, 0, 0, 10), path(0, 10), path(0, 10, 0, 0)), 2, feats(127, 0, 2, 127, 255, 2, 127, 255, 0, 127, 255, 0, 127, 255, 6, 127, 0, 6)},
		"all in one point":          {inkOf(path(5, 5), path(5, 5, 5, 5), path(5, 5)), 2, slices.Repeat(feats(127, 127, 0), 6)},
		"as many points":            {inkOf(slices.Repeat([]impl.Stroke{path(9, 9)}, impl.MaxStrokes)...), impl.MaxFeats, slices.Repeat(feats(127, 127, 0), impl.MaxFeatList)},
		"equal in the square only":  {inkOf(path(0, 0, most, most), path(2003, 2000, 2000, 2000)), 2, feats(0, 0, 1, 255, 255, 1, 125, 125, 4, 125, 125, 4)},
		"small, in a large box":     {inkOf(path(0, 0, most, 0), path(0, most), path(100, 1001, 102, 1000)), 2, feats(0, 0, 0, 255, 0, 0, 0, 255, 0, 0, 255, 0, 6, 62, 7, 6, 62, 7)},
	})
	whole := inkWith(impl.MaxStrokes, impl.MaxPoints)
	list, code := impl.FeatsOf(whole, impl.MaxFeats)
	is(t, "the most", all(int64(len(list)), impl.ValidFeats(list), code), all(int64(impl.MaxFeatList), true, impl.OK))
}

// TestFeatsOfAnyInk has each number of features.
func TestFeatsOfAnyInk(t *testing.T) {
	s := source(126)
	inks := manyInks(&s)
	for _, p := range manyTimedPaths(&s) {
		inks = append(inks, ink(p))
	}
	// Places that are equal have a side that is hardly greater than the number of places.
	for range 200 {
		inks = append(inks, inkOf(randomPath(&s, 2+s.below(5), 1+s.below(5)), randomPath(&s, 2+s.below(9), 1+s.below(4))))
	}
	for _, i := range inks {
		for _, n := range []int64{2, 3, 4, 5, 8, impl.MaxFeats - 1, impl.MaxFeats, 2 + s.below(impl.MaxFeats-1)} {
			is(t, "any ink", all(impl.FeatsOf(i, n)), all(featsIn(i, n), impl.OK))
		}
	}
}

// TestFeatsOfEachDirection has strokes in each direction, with each number of features.
func TestFeatsOfEachDirection(t *testing.T) {
	ways := [][2]int64{{1, 0}, {1, 1}, {0, 1}, {-1, 1}, {-1, 0}, {-1, -1}, {0, -1}, {1, -1}}
	for d, way := range ways {
		for n := int64(2); n <= impl.MaxFeats; n++ {
			length := 30 * (n - 1)
			i := inkOf(path(2000, 2000, 2000+length*way[0], 2000+length*way[1]))
			list, code := impl.FeatsOf(i, n)
			is(t, "in each direction", all(impl.DirectionCounts(list)), all(onlyAt(d, n), impl.OK))
			is(t, "code", code, impl.OK)
		}
	}
}

// onlyAt returns eight counts, all of them 0 but one.
func onlyAt(d int, n int64) []int64 {
	counts := make([]int64, 8)
	counts[d] = n
	return counts
}

// TestFeatsOnTheBorder has the last difference in one sector, and the first one in the next.
func TestFeatsOnTheBorder(t *testing.T) {
	for _, size := range []int64{1, 2, 5, 12, 29, 70, 169, 408, 985, 1000, 2000, 2046, 2047} {
		in := int64(0)
		for (size+in+1)*(size+in+1) <= 2*size*size {
			in++
		}
		out := in + 1
		for d, direction := range map[[2]int64]int64{
			{size, in}: 0, {size, out}: 1, {out, size}: 1, {in, size}: 2, {-in, size}: 2, {-out, size}: 3, {-size, out}: 3, {-size, in}: 4,
			{-size, -in}: 4, {-size, -out}: 5, {-out, -size}: 5, {-in, -size}: 6, {in, -size}: 6, {out, -size}: 7, {size, -out}: 7, {size, -in}: 0,
		} {
			i := inkOf(path(2047, 2047, 2047+d[0], 2047+d[1], 2047, 2047))
			list, code := impl.FeatsOf(i, 3)
			if code != impl.OK {
				t.Fatal("the code of", d, ":", code)
			}
			back := backTable(direction)
			is(t, "there and back "+pair(d[0], d[1]), row(list[0].D, list[1].D, list[2].D), row(direction, back, back))
		}
	}
}

// TestFeatsOfErrors has them in their order.
func TestFeatsOfErrors(t *testing.T) {
	none := []impl.Ink{{}, {Strokes: []impl.Stroke{}}}
	for _, i := range none {
		for n := int64(2); n <= impl.MaxFeats; n++ {
			is(t, "no strokes", all(impl.FeatsOf(i, n)), all([]impl.Feat{}, impl.ErrState))
		}
	}
	for _, n := range append(extremes(), 1, 0, -1, -2, impl.MaxFeats+1, impl.MaxFeats+2, impl.MaxFeatList, impl.MaxStep, 1<<32+2) {
		for _, i := range append(none, inkOf(path(7, 8)), inkOf(path(10, 10, 30, 10)), inkWith(impl.MaxStrokes, impl.MaxPoints)) {
			is(t, "n "+pair(n, 0), all(impl.FeatsOf(i, n)), all([]impl.Feat{}, impl.ErrRange))
		}
	}
	for _, n := range []int64{2, 5, impl.MaxFeats, 1, 0, -1, impl.MaxFeats + 1, leastInt, greatestInt} {
		refusedInks(t, "FeatsOf", func(i impl.Ink) []any { return all(impl.FeatsOf(i, n)) }, []impl.Feat{})
	}
	for _, n := range []int64{2, impl.MaxFeats} {
		_, code := impl.FeatsOf(inkOf(path(7, 8, 9, 9)), n)
		is(t, "at the limit", code, impl.OK)
	}
}
