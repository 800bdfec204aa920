package tests

import (
	"slices"
	"testing"

	"loop.example/g00918/impl"
)

func TestSlantOf(t *testing.T) {
	most := int64(impl.MaxCoord)
	cases := map[string]struct {
		i    impl.Ink
		want int64
	}{
		"to the left":              {inkOf(path(50, 0, 40, 40)), 64},
		"the same upwards":         {inkOf(path(40, 40, 50, 0)), 64},
		"to the right":             {inkOf(path(40, 0, 50, 40)), -64},
		"upright":                  {inkOf(path(40, 0, 40, 40)), 0},
		"just steeper":             {inkOf(path(0, 0, 10, 11)), -233},
		"just steeper upwards":     {inkOf(path(0, 11, 10, 0)), 233},
		"as great as may be":       {inkOf(path(0, most, most-1, 0)), 256},
		"as small as may be":       {inkOf(path(0, 0, most-1, most)), -256},
		"of one step":              {inkOf(path(3, 3, 3, 4)), 0},
		"flat ones do not count":   {inkOf(path(50, 0, 40, 40, 90, 40, 80, 80)), 64},
		"diagonals do not count":   {inkOf(path(50, 0, 40, 40, 80, 80, 70, 120)), 64},
		"rests do not count":       {inkOf(path(50, 0, 50, 0, 40, 40, 40, 40)), 64},
		"by squares":               {inkOf(path(10, 0, 0, 20, 0, 60)), 26},
		"opposite ones":            {inkOf(path(10, 0, 0, 20, 10, 40)), 0},
		"several strokes":          {inkOf(path(50, 0, 40, 40), path(90, 40, 80, 80)), 64},
		"not between strokes":      {inkOf(path(50, 0, 40, 40), path(41, 0, 31, 40)), 64},
		"points between":           {inkOf(path(50, 0, 40, 40), path(90, 90), path(0, 0)), 64},
		"in the middle, 1":         {inkOf(path(1, 0, 0, 512)), 1},
		"in the middle, -1":        {inkOf(path(0, 0, 1, 512)), 0},
		"in the middle, 3":         {inkOf(path(3, 0, 0, 512)), 2},
		"in the middle, -3":        {inkOf(path(0, 0, 3, 512)), -1},
		"below the middle, 1":      {inkOf(path(1, 0, 0, 513)), 0},
		"beyond the middle, 1":     {inkOf(path(1, 0, 0, 511)), 1},
		"beyond the middle, -1":    {inkOf(path(0, 0, 1, 511)), -1},
		"below the middle, -1":     {inkOf(path(0, 0, 1, 513)), 0},
		"below the middle, -3":     {inkOf(path(0, 0, 3, 513)), -1},
		"beyond the middle, -3":    {inkOf(path(0, 0, 3, 511)), -2},
		"the most, up and down":    {inkOf(slices.Repeat([]impl.Stroke{tall()}, impl.MaxStrokes)...), 256},
		"the most, the other side": {inkOf(slices.Repeat([]impl.Stroke{mirrored(tall())}, impl.MaxStrokes)...), -256},
	}
	for name, c := range cases {
		is(t, name, all(impl.SlantOf(c.i)), all(c.want, impl.OK))
	}
	s := source(92)
	for range 5 {
		for _, i := range manyInks(&s) {
			want, some := slantIn(i)
			is(t, "any ink", all(impl.SlantOf(i)), all(want, map[bool]int64{true: impl.OK, false: impl.ErrState}[some]))
		}
	}
}

// tall goes up and down as steeply as it may while it leans, with the most points.
func tall() impl.Stroke {
	var s impl.Stroke
	for at := range int64(impl.MaxPoints) {
		s.Points = append(s.Points, point(at%2*(impl.MaxCoord-1), (at+1)%2*impl.MaxCoord, at))
	}
	return s
}

// mirrored returns the stroke with right and left exchanged.
func mirrored(s impl.Stroke) impl.Stroke {
	var with impl.Stroke
	for _, p := range s.Points {
		with.Points = append(with.Points, point(impl.MaxCoord-p.X, p.Y, p.T))
	}
	return with
}

func TestSlantOfErrors(t *testing.T) {
	for name, i := range map[string]impl.Ink{
		"no strokes":        {},
		"empty strokes":     {Strokes: []impl.Stroke{}},
		"one point":         inkOf(path(5, 5)),
		"points":            inkOf(path(5, 5), path(7, 90), path(9, 0)),
		"at one place":      inkOf(path(5, 5, 5, 5, 5, 5)),
		"flat":              inkOf(path(5, 5, 9, 5)),
		"flat and upwards":  inkOf(path(10, 10, 0, 1)),
		"a diagonal":        inkOf(path(0, 0, 10, 10)),
		"other diagonals":   inkOf(path(10, 10, 0, 20, 10, 30), path(50, 50, 40, 40, 50, 30)),
		"a step":            inkOf(path(3, 3, 4, 4)),
		"the most, flat":    inkOf(slices.Repeat([]impl.Stroke{randomPath(new(source), 1, impl.MaxPoints)}, impl.MaxStrokes)...),
		"the long diagonal": inkOf(path(0, impl.MaxCoord, impl.MaxCoord, 0)),
	} {
		is(t, name, all(impl.SlantOf(i)), all(int64(0), impl.ErrState))
	}
	refusedInks(t, "SlantOf", func(i impl.Ink) []any { return all(impl.SlantOf(i)) }, int64(0))
}

func TestStraightenInk(t *testing.T) {
	most := int64(impl.MaxCoord)
	cases := map[string]struct {
		i           impl.Ink
		slant, base int64
		want        impl.Ink
	}{
		"a slant":             {inkOf(path(50, 0, 40, 40)), 64, 40, inkOf(path(40, 0, 40, 40))},
		"another base":        {inkOf(path(50, 0, 40, 40)), 64, 0, inkOf(path(50, 0, 50, 40))},
		"a base below":        {inkOf(path(50, 0, 40, 40)), 64, 80, inkOf(path(30, 0, 30, 40))},
		"to the other side":   {inkOf(path(40, 0, 50, 40)), -64, 40, inkOf(path(50, 0, 50, 40))},
		"none":                {inkOf(path(50, 0, 40, 40)), 0, 40, inkOf(path(50, 0, 40, 40))},
		"none, the last base": {inkOf(path(50, 0, 40, most)), 0, most, inkOf(path(50, 0, 40, most))},
		"the greatest slant":  {inkOf(path(most, 0, 0, most)), 256, most, inkOf(path(0, 0, 0, most))},
		"the least slant":     {inkOf(path(0, 0, most, most)), -256, most, inkOf(path(most, 0, most, most))},
		"the first base":      {inkOf(path(0, most, most, 0)), 256, 0, inkOf(path(most, most, most, 0))},
		"one point":           {inkOf(path(9, 8)), 256, 10, inkOf(path(7, 8))},
		"several strokes":     {inkOf(path(9, 8), path(50, 0, 40, 20)), 128, 10, inkOf(path(8, 8), path(45, 0, 45, 20))},
		"no strokes":          {impl.Ink{}, 256, most, impl.Ink{}},
		"no strokes, least":   {impl.Ink{}, -256, 0, impl.Ink{}},
		"times stay":          {ink(stroke(point(9, 8, 5), point(9, 8, 77))), 256, 10, ink(stroke(point(7, 8, 5), point(7, 8, 77)))},
		"in the middle":       {inkOf(path(5, 9, 5, 11, 5, 7, 5, 13)), 128, 10, inkOf(path(4, 9, 5, 11, 3, 7, 6, 13))},
		"negative":            {inkOf(path(5, 9, 5, 11, 5, 7, 5, 13)), -128, 10, inkOf(path(5, 9, 4, 11, 6, 7, 3, 13))},
		"below the middle":    {inkOf(path(5, 9, 5, 11, 5, 7, 5, 13)), 127, 10, inkOf(path(5, 9, 5, 11, 4, 7, 6, 13))},
		"beyond the middle":   {inkOf(path(5, 9, 5, 11, 5, 7, 5, 13)), 129, 10, inkOf(path(4, 9, 6, 11, 3, 7, 7, 13))},
		"just not negative":   {inkOf(path(10, 0, 0, 10)), 256, 10, inkOf(path(0, 0, 0, 10))},
		"just not too great":  {inkOf(path(most-10, 0, 0, 10)), -256, 10, inkOf(path(most, 0, 0, 10))},
		"rounded to 0":        {inkOf(path(0, 12)), 128, 11, inkOf(path(0, 12))},
		"rounded to the last": {inkOf(path(most, 11)), -128, 12, inkOf(path(most, 11))},
	}
	for name, c := range cases {
		is(t, name, all(impl.StraightenInk(c.i, c.slant, c.base)), all(c.want, impl.OK))
	}
	s := source(93)
	done := map[bool]int{}
	for _, i := range manyInks(&s) {
		for range 40 {
			slant, base := s.below(513)-256, s.below(impl.MaxCoord+1)
			want, code := straightIn(i, slant, base), int64(impl.OK)
			if !impl.ValidInk(want) {
				want, code = impl.Ink{}, impl.ErrState
			}
			done[code == impl.OK]++
			is(t, "any ink", all(impl.StraightenInk(i, slant, base)), all(want, code))
		}
	}
	is(t, "some are valid, and some not", all(done[true] > 300, done[false] > 300), all(true, true))
}

func TestStraightenInkErrors(t *testing.T) {
	most := int64(impl.MaxCoord)
	good := inkOf(path(50, 0, 40, 40))
	for name, c := range map[string]struct {
		i           impl.Ink
		slant, base int64
	}{
		"just negative":          {inkOf(path(10, 0)), 256, 11},
		"rounded to -1":          {inkOf(path(0, 11)), 128, 12},
		"just too great":         {inkOf(path(most-10, 0)), -256, 11},
		"rounded to too great":   {inkOf(path(most, 11)), -129, 12},
		"the last point":         {inkOf(path(10, 0, 10, 0, 0, 0)), 256, 10},
		"the last stroke":        {inkOf(path(10, 0, 10, 0), path(10, 0, 9, 0)), 256, 10},
		"the first point":        {inkOf(path(9, 0, 10, 0)), 256, 10},
		"as far as may be":       {inkOf(path(0, 0)), 256, most},
		"as far, the other side": {inkOf(path(most, most)), 256, 0},
	} {
		is(t, name, all(impl.StraightenInk(c.i, c.slant, c.base)), all(impl.Ink{}, impl.ErrState))
	}
	for _, slant := range append(extremes(), 257, -257, 1<<56, -1<<56, 1000) {
		for _, i := range []impl.Ink{good, {}, inkOf(path(0, 0))} {
			is(t, "slant", all(impl.StraightenInk(i, slant, 0)), all(impl.Ink{}, impl.ErrRange))
			is(t, "slant, and a base", all(impl.StraightenInk(i, slant, 4095)), all(impl.Ink{}, impl.ErrRange))
			is(t, "both", all(impl.StraightenInk(i, slant, slant)), all(impl.Ink{}, impl.ErrRange))
		}
	}
	for _, base := range outOfRange() {
		for _, slant := range []int64{0, 1, 256, -256} {
			is(t, "base", all(impl.StraightenInk(good, slant, base)), all(impl.Ink{}, impl.ErrRange))
			is(t, "base without strokes", all(impl.StraightenInk(impl.Ink{}, slant, base)), all(impl.Ink{}, impl.ErrRange))
		}
	}
	for _, c := range [][2]int64{{0, 0}, {256, 0}, {257, 0}, {0, -1}, {leastInt, greatestInt}} {
		refusedInks(t, "StraightenInk", func(i impl.Ink) []any { return all(impl.StraightenInk(i, c[0], c[1])) }, impl.Ink{})
	}
}

// columns returns ink with a stroke from the first to the second one of each two numbers, as Y.
func columns(ys ...int64) impl.Ink {
	var strokes []impl.Stroke
	for at := 0; at < len(ys); at += 2 {
		strokes = append(strokes, path(int64(at), ys[at], 5, ys[at+1]))
	}
	return inkOf(strokes...)
}

func TestMedians(t *testing.T) {
	most := int64(impl.MaxCoord)
	var all16 []int64
	for at := range int64(impl.MaxStrokes) {
		all16 = append(all16, at, 100-3*at)
	}
	cases := map[string]struct {
		i            impl.Ink
		base, height int64
	}{
		"one point":                 {inkOf(path(7, 8)), 8, 0},
		"one stroke":                {columns(10, 30), 30, 20},
		"upwards":                   {columns(30, 10), 30, 20},
		"a box, not its ends":       {inkOf(path(0, 5, 1, 90, 2, 40)), 90, 85},
		"two":                       {columns(0, 40, 20, 70), 40, 40},
		"two the other way round":   {columns(20, 70, 0, 40), 40, 40},
		"two, another order":        {columns(60, 70, 0, 40), 40, 10},
		"three":                     {columns(10, 90, 20, 30, 30, 50), 50, 20},
		"three in order":            {columns(0, 1, 0, 2, 0, 3), 2, 2},
		"three backwards":           {columns(0, 3, 0, 2, 0, 1), 2, 2},
		"four":                      {columns(0, 7, 0, 3, 0, 9, 0, 5), 5, 5},
		"five":                      {columns(0, 7, 0, 3, 0, 9, 0, 5, 0, 1), 5, 5},
		"equal ones":                {columns(5, 9, 5, 9, 5, 9, 5, 9), 9, 4},
		"equal ones in the middle":  {columns(0, 1, 0, 6, 0, 6, 0, 9), 6, 6},
		"equal ones at the end":     {columns(0, 9, 0, 1, 0, 9), 9, 9},
		"equal ones at first":       {columns(0, 9, 0, 1, 0, 1), 1, 1},
		"half of them equal":        {columns(0, 9, 0, 1, 0, 9, 0, 1), 1, 1},
		"ones, then the others":     {columns(0, 1, 0, 1, 0, 9, 0, 9), 1, 1},
		"points at heights":         {inkOf(path(0, 7), path(0, 3), path(0, 9)), 7, 0},
		"the limits":                {columns(0, most, 0, 0), 0, 0},
		"the greatest":              {columns(0, most), most, most},
		"the most strokes":          {columns(all16...), 76, 68},
		"different orders for both": {columns(90, 100, 0, 50, 40, 60), 60, 20},
	}
	for name, c := range cases {
		is(t, "base line: "+name, all(impl.BaseLineOf(c.i)), all(c.base, impl.OK))
		is(t, "middle height: "+name, all(impl.MiddleHeight(c.i)), all(c.height, impl.OK))
	}
	s := source(94)
	for range 5 {
		for _, i := range manyInks(&s) {
			is(t, "base line of any ink", all(impl.BaseLineOf(i)), all(middleOf(bottomsIn(i)), impl.OK))
			is(t, "middle height of any ink", all(impl.MiddleHeight(i)), all(middleOf(heightsIn(i)), impl.OK))
		}
	}
	for _, i := range []impl.Ink{{}, {Strokes: []impl.Stroke{}}} {
		is(t, "no strokes", all(impl.BaseLineOf(i)), all(int64(0), impl.ErrState))
		is(t, "no strokes", all(impl.MiddleHeight(i)), all(int64(0), impl.ErrState))
	}
	refusedInks(t, "BaseLineOf", func(i impl.Ink) []any { return all(impl.BaseLineOf(i)) }, int64(0))
	refusedInks(t, "MiddleHeight", func(i impl.Ink) []any { return all(impl.MiddleHeight(i)) }, int64(0))
}

func TestCenterOf(t *testing.T) {
	most := int64(impl.MaxCoord)
	cases := map[string]struct {
		i    impl.Ink
		want impl.Spot
	}{
		"one point":                {inkOf(path(7, 8)), spot(7, 8)},
		"the first point":          {inkOf(path(0, 0)), spot(0, 0)},
		"the last point":           {inkOf(path(most, most), path(most, most)), spot(most, most)},
		"in the middle":            {inkOf(path(0, 0, 1, 3)), spot(1, 2)},
		"in the middle of strokes": {inkOf(path(4, 9), path(5, 8)), spot(5, 9)},
		"below the middle":         {inkOf(path(0, 1, 0, 1, 1, 2)), spot(0, 1)},
		"beyond the middle":        {inkOf(path(0, 1, 1, 2, 1, 2)), spot(1, 2)},
		"of four":                  {inkOf(path(0, 0, 0, 0, 1, 0), path(1, 2)), spot(1, 1)},
		"of four, less":            {inkOf(path(0, 0, 0, 0, 0, 0), path(1, 1)), spot(0, 0)},
		"of all points":            {inkOf(path(0, 0, 0, 0, 0, 0), path(8, 80)), spot(2, 20)},
		"points, not boxes":        {inkOf(path(0, 0, 1, 1, 2, 2, 90, 90)), spot(23, 23)},
		"two strokes":              {inkOf(path(50, 0, 40, 40), path(60, 20, 80, 70)), spot(58, 33)},
		"the most":                 {inkWith(impl.MaxStrokes, impl.MaxPoints), spot(31, 159)},
	}
	for name, c := range cases {
		is(t, name, all(impl.CenterOf(c.i)), all(c.want, impl.OK))
	}
	s := source(95)
	for range 5 {
		for _, i := range manyInks(&s) {
			is(t, "any ink", all(impl.CenterOf(i)), all(meanIn(i), impl.OK))
		}
	}
	for _, i := range []impl.Ink{{}, {Strokes: []impl.Stroke{}}} {
		is(t, "no strokes", all(impl.CenterOf(i)), all(impl.Spot{}, impl.ErrState))
	}
	refusedInks(t, "CenterOf", func(i impl.Ink) []any { return all(impl.CenterOf(i)) }, impl.Spot{})
}

func TestFitInk(t *testing.T) {
	most := int64(impl.MaxCoord)
	cases := map[string]struct {
		i    impl.Ink
		side int64
		want impl.Ink
	}{
		"one point":           {inkOf(path(7, 8)), 100, inkOf(path(0, 0))},
		"one point, side 1":   {inkOf(path(7, 8)), 1, inkOf(path(0, 0))},
		"one point, greatest": {inkOf(path(most, most)), most, inkOf(path(0, 0))},
		"points at one place": {inkOf(path(7, 8, 7, 8), path(7, 8)), 100, inkOf(path(0, 0, 0, 0), path(0, 0))},
		"greater":             {inkOf(path(50, 0, 40, 40)), 80, inkOf(path(20, 0, 0, 80))},
		"smaller":             {inkOf(path(50, 0, 40, 40)), 20, inkOf(path(5, 0, 0, 20))},
		"the same":            {inkOf(path(0, 0, 40, 10)), 40, inkOf(path(0, 0, 40, 10))},
		"moved only":          {inkOf(path(5, 6, 45, 16)), 40, inkOf(path(0, 0, 40, 10))},
		"flat":                {inkOf(path(5, 6, 15, 6, 25, 6)), 10, inkOf(path(0, 0, 5, 0, 10, 0))},
		"upright":             {inkOf(path(6, 5, 6, 15, 6, 25)), 10, inkOf(path(0, 0, 0, 5, 0, 10))},
		"a step":              {inkOf(path(4, 4, 5, 4)), most, inkOf(path(0, 0, most, 0))},
		"a step of both":      {inkOf(path(4, 4, 5, 5)), 7, inkOf(path(0, 0, 7, 7))},
		"side 1":              {inkOf(path(0, 0, 49, 50, 51, 99, 100, 100)), 1, inkOf(path(0, 0, 0, 1, 1, 1, 1, 1))},
		"everything":          {inkOf(path(0, 0, most, most)), most, inkOf(path(0, 0, most, most))},
		"everything, side 1":  {inkOf(path(0, most, most, 0)), 1, inkOf(path(0, 1, 1, 0))},
		"in the middle":       {inkOf(path(0, 0, 1, 3, 20, 20)), 10, inkOf(path(0, 0, 1, 2, 10, 10))},
		"next to the middle":  {inkOf(path(0, 0, 1, 2, 5, 7, 40, 40)), 10, inkOf(path(0, 0, 0, 1, 1, 2, 10, 10))},
		"several strokes":     {inkOf(path(10, 10), path(30, 20, 20, 40)), 60, inkOf(path(0, 0), path(40, 20, 20, 60))},
		"times stay":          {ink(stroke(point(5, 5, 9), point(7, 6, 800)), stroke(point(5, 5, impl.MaxTime))), 4, ink(stroke(point(0, 0, 9), point(4, 2, 800)), stroke(point(0, 0, impl.MaxTime)))},
	}
	for name, c := range cases {
		is(t, name, all(impl.FitInk(c.i, c.side)), all(c.want, impl.OK))
	}
	s := source(96)
	for _, i := range manyInks(&s) {
		for _, side := range []int64{1, 2, 3, 10, 255, 256, 1000, most - 1, most, 1 + s.below(impl.MaxCoord)} {
			is(t, "any ink", all(impl.FitInk(i, side)), all(fitIn(i, side), impl.OK))
		}
	}
}

func TestFitInkErrors(t *testing.T) {
	none := []impl.Ink{{}, {Strokes: []impl.Stroke{}}}
	for _, i := range none {
		for _, side := range []int64{1, 2, 80, impl.MaxCoord} {
			is(t, "no strokes", all(impl.FitInk(i, side)), all(impl.Ink{}, impl.ErrState))
		}
	}
	for _, side := range append(outOfRange(), 0) {
		for _, i := range append(none, inkOf(path(7, 8)), inkOf(path(50, 0, 40, 40)), inkOf(path(0, 0, impl.MaxCoord, impl.MaxCoord))) {
			is(t, "side "+pair(side, 0), all(impl.FitInk(i, side)), all(impl.Ink{}, impl.ErrRange))
		}
	}
	for _, side := range []int64{80, 1, impl.MaxCoord, 0, -1, impl.MaxCoord + 1, leastInt, greatestInt} {
		refusedInks(t, "FitInk", func(i impl.Ink) []any { return all(impl.FitInk(i, side)) }, impl.Ink{})
	}
}
