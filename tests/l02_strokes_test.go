package tests

import (
	"strconv"
	"strings"
	"testing"

	"loop.example/g00918/impl"
)

func TestLimitsOfInk(t *testing.T) {
	is(t, "limits", []int64{impl.MaxCoord, impl.MaxTime, impl.MaxPoints, impl.MaxStrokes}, []int64{4095, 3600000, 60, 16})
}

// wrongStrokes are invalid, each for one reason.
func wrongStrokes() map[string]impl.Stroke {
	ok := point(5, 6, 7)
	return map[string]impl.Stroke{
		"no points":         {},
		"empty points":      {Points: []impl.Point{}},
		"X too small":       stroke(point(-1, 6, 7)),
		"X too great":       stroke(point(impl.MaxCoord+1, 6, 7)),
		"Y too small":       stroke(point(5, -1, 7)),
		"Y too great":       stroke(point(5, impl.MaxCoord+1, 7)),
		"T too small":       stroke(point(5, 6, -1)),
		"T too great":       stroke(point(5, 6, impl.MaxTime+1)),
		"last X too great":  stroke(ok, point(impl.MaxCoord+1, 6, 8)),
		"last Y too small":  stroke(ok, point(5, -1, 8)),
		"last T too great":  stroke(ok, point(5, 6, impl.MaxTime+1)),
		"equal times":       stroke(ok, point(6, 6, 7)),
		"falling times":     stroke(ok, point(6, 6, 6)),
		"third time equal":  stroke(ok, point(6, 6, 8), point(6, 6, 8)),
		"third time falls":  stroke(ok, point(6, 6, 9), point(6, 6, 8)),
		"too many points":   strokeFrom(0, impl.MaxPoints+1),
		"least integers":    stroke(point(leastInt, leastInt, leastInt)),
		"greatest integers": stroke(point(greatestInt, greatestInt, greatestInt)),
	}
}

// wrongInks are invalid, each for one reason.
func wrongInks() map[string]impl.Ink {
	good := stroke(point(1, 1, 10), point(2, 2, 20))
	inks := map[string]impl.Ink{
		"too many strokes":                ink(inkWith(impl.MaxStrokes+1, 1).Strokes...),
		"begins when the one before ends": ink(good, stroke(point(1, 1, 20))),
		"begins within the one before":    ink(good, stroke(point(1, 1, 15), point(1, 1, 30))),
		"begins before the one before":    ink(good, stroke(point(1, 1, 5), point(1, 1, 30))),
		"third stroke begins too early":   ink(good, stroke(point(1, 1, 21)), stroke(point(1, 1, 21))),
	}
	for name, s := range wrongStrokes() {
		inks["first stroke: "+name] = ink(s, stroke(point(1, 1, impl.MaxTime)))
		inks["last stroke: "+name] = ink(stroke(point(1, 1, 0)), s)
		inks["only stroke: "+name] = ink(s)
	}
	return inks
}

// wrongBoxes are invalid, each for one reason.
func wrongBoxes() map[string]impl.Box {
	return map[string]impl.Box{
		"X1 negative":     {X1: -1, Y1: 2, X2: 3, Y2: 4},
		"Y1 negative":     {X1: 1, Y1: -1, X2: 3, Y2: 4},
		"X1 beyond X2":    {X1: 4, Y1: 2, X2: 3, Y2: 4},
		"Y1 beyond Y2":    {X1: 1, Y1: 5, X2: 3, Y2: 4},
		"X2 too great":    {X1: 1, Y1: 2, X2: impl.MaxCoord + 1, Y2: 4},
		"Y2 too great":    {X1: 1, Y1: 2, X2: 3, Y2: impl.MaxCoord + 1},
		"all negative":    {X1: -4, Y1: -4, X2: -3, Y2: -3},
		"the least":       {X1: leastInt, Y1: leastInt, X2: leastInt, Y2: leastInt},
		"the greatest":    {X1: greatestInt, Y1: greatestInt, X2: greatestInt, Y2: greatestInt},
		"the whole plane": {X1: leastInt, Y1: leastInt, X2: greatestInt, Y2: greatestInt},
	}
}

func TestValidStroke(t *testing.T) {
	valid := map[string]impl.Stroke{
		"least point":    stroke(point(0, 0, 0)),
		"greatest point": stroke(point(impl.MaxCoord, impl.MaxCoord, impl.MaxTime)),
		"two points":     stroke(point(10, 20, 0), point(30, 25, 8)),
		"same place":     stroke(point(10, 20, 0), point(10, 20, 1)),
		"falling places": stroke(point(10, 20, 0), point(9, 19, 1)),
		"most points":    strokeFrom(0, impl.MaxPoints),
		"whole time":     stroke(point(1, 1, 0), point(1, 1, impl.MaxTime)),
	}
	for name, s := range valid {
		is(t, name, impl.ValidStroke(s), true)
	}
	for name, s := range wrongStrokes() {
		is(t, name, impl.ValidStroke(s), false)
	}
}

func TestValidInk(t *testing.T) {
	valid := map[string]impl.Ink{
		"no strokes":     {},
		"empty strokes":  {Strokes: []impl.Stroke{}},
		"one stroke":     ink(stroke(point(0, 0, 0))),
		"next time":      ink(stroke(point(1, 1, 10), point(2, 2, 20)), stroke(point(1, 1, 21))),
		"most strokes":   inkWith(impl.MaxStrokes, 1),
		"the most":       inkWith(impl.MaxStrokes, impl.MaxPoints),
		"the whole time": ink(stroke(point(1, 1, 0)), stroke(point(1, 1, impl.MaxTime))),
	}
	for name, i := range valid {
		is(t, name, impl.ValidInk(i), true)
	}
	for name, i := range wrongInks() {
		is(t, name, impl.ValidInk(i), false)
	}
}

func TestSameInk(t *testing.T) {
	one := ink(stroke(point(1, 2, 3), point(4, 5, 6)), stroke(point(7, 8, 9)))
	others := map[string]impl.Ink{
		"none":            {},
		"another X":       ink(stroke(point(0, 2, 3), point(4, 5, 6)), stroke(point(7, 8, 9))),
		"another Y":       ink(stroke(point(1, 2, 3), point(4, 0, 6)), stroke(point(7, 8, 9))),
		"another T":       ink(stroke(point(1, 2, 3), point(4, 5, 6)), stroke(point(7, 8, 0))),
		"fewer points":    ink(stroke(point(1, 2, 3)), stroke(point(7, 8, 9))),
		"more points":     ink(stroke(point(1, 2, 3), point(4, 5, 6)), stroke(point(7, 8, 9), point(7, 8, 10))),
		"fewer strokes":   ink(stroke(point(1, 2, 3), point(4, 5, 6))),
		"an empty stroke": ink(stroke(point(1, 2, 3), point(4, 5, 6)), stroke(point(7, 8, 9)), stroke()),
		"other division":  ink(stroke(point(1, 2, 3)), stroke(point(4, 5, 6), point(7, 8, 9))),
		"other order":     ink(stroke(point(7, 8, 9)), stroke(point(1, 2, 3), point(4, 5, 6))),
		"points turned":   ink(stroke(point(4, 5, 6), point(1, 2, 3)), stroke(point(7, 8, 9))),
	}
	for name, other := range others {
		is(t, name, all(impl.SameInk(one, other), impl.SameInk(other, one), impl.SameInk(other, other)), all(false, false, true))
	}
	is(t, "a copy", impl.SameInk(one, roomy(one)), true)
	is(t, "nil and empty strokes", impl.SameInk(impl.Ink{}, impl.Ink{Strokes: []impl.Stroke{}}), true)
	is(t, "nil and empty points", impl.SameInk(ink(impl.Stroke{}), ink(impl.Stroke{Points: []impl.Point{}})), true)
	is(t, "no stroke and an empty one", impl.SameInk(impl.Ink{}, ink(impl.Stroke{})), false)
	for name, i := range wrongInks() {
		is(t, "itself, invalid: "+name, impl.SameInk(i, roomy(i)), true)
		is(t, "another one, invalid: "+name, impl.SameInk(i, one), false)
	}
}

func TestValidBox(t *testing.T) {
	valid := map[string]impl.Box{
		"zero":       {},
		"ordinary":   {X1: 10, Y1: 20, X2: 30, Y2: 25},
		"a point":    {X1: 5, Y1: 6, X2: 5, Y2: 6},
		"the corner": {X1: impl.MaxCoord, Y1: impl.MaxCoord, X2: impl.MaxCoord, Y2: impl.MaxCoord},
		"all":        {X1: 0, Y1: 0, X2: impl.MaxCoord, Y2: impl.MaxCoord},
	}
	for name, b := range valid {
		is(t, name, impl.ValidBox(b), true)
	}
	for name, b := range wrongBoxes() {
		is(t, name, impl.ValidBox(b), false)
	}
}

func TestBoxOfStroke(t *testing.T) {
	cases := map[string]struct {
		s impl.Stroke
		b impl.Box
	}{
		"example":       {stroke(point(10, 20, 0), point(30, 25, 8)), impl.Box{X1: 10, Y1: 20, X2: 30, Y2: 25}},
		"one point":     {stroke(point(3, 4, 5)), impl.Box{X1: 3, Y1: 4, X2: 3, Y2: 4}},
		"in the middle": {stroke(point(5, 5, 1), point(1, 9, 2), point(8, 2, 3), point(4, 4, 4)), impl.Box{X1: 1, Y1: 2, X2: 8, Y2: 9}},
		"falling":       {stroke(point(30, 25, 0), point(10, 20, 8)), impl.Box{X1: 10, Y1: 20, X2: 30, Y2: 25}},
		"the limits":    {stroke(point(impl.MaxCoord, 0, 0), point(0, impl.MaxCoord, 8)), impl.Box{X2: impl.MaxCoord, Y2: impl.MaxCoord}},
		"most points":   {strokeFrom(0, impl.MaxPoints), impl.Box{X1: 1, Y1: 100, X2: 60, Y2: 218}},
	}
	for name, c := range cases {
		b, code := impl.BoxOfStroke(c.s)
		is(t, name, all(b, code), all(c.b, impl.OK))
	}
	for name, s := range wrongStrokes() {
		b, code := impl.BoxOfStroke(s)
		is(t, name, all(b, code), all(impl.Box{}, impl.ErrInvalid))
	}
}

func TestBoxOfInk(t *testing.T) {
	cases := map[string]struct {
		i impl.Ink
		b impl.Box
	}{
		"example":      {ink(stroke(point(10, 20, 0), point(30, 25, 8))), impl.Box{X1: 10, Y1: 20, X2: 30, Y2: 25}},
		"later stroke": {ink(stroke(point(10, 20, 0)), stroke(point(2, 30, 1), point(12, 1, 2))), impl.Box{X1: 2, Y1: 1, X2: 12, Y2: 30}},
		"first stroke": {ink(stroke(point(2, 30, 1), point(12, 1, 2)), stroke(point(10, 20, 3))), impl.Box{X1: 2, Y1: 1, X2: 12, Y2: 30}},
		"the most":     {inkWith(impl.MaxStrokes, impl.MaxPoints), impl.Box{X1: 1, Y1: 100, X2: 60, Y2: 218}},
	}
	for name, c := range cases {
		b, code := impl.BoxOfInk(c.i)
		is(t, name, all(b, code), all(c.b, impl.OK))
	}
	for _, none := range []impl.Ink{{}, {Strokes: []impl.Stroke{}}} {
		b, code := impl.BoxOfInk(none)
		is(t, "no strokes", all(b, code), all(impl.Box{}, impl.ErrState))
	}
	for name, i := range wrongInks() {
		b, code := impl.BoxOfInk(i)
		is(t, name, all(b, code), all(impl.Box{}, impl.ErrInvalid))
	}
}

func TestJoinBoxes(t *testing.T) {
	one := impl.Box{X1: 10, Y1: 20, X2: 30, Y2: 40}
	cases := map[string]struct{ other, sum impl.Box }{
		"itself":      {one, one},
		"within":      {impl.Box{X1: 15, Y1: 25, X2: 20, Y2: 30}, one},
		"around":      {impl.Box{X1: 1, Y1: 2, X2: 50, Y2: 60}, impl.Box{X1: 1, Y1: 2, X2: 50, Y2: 60}},
		"left above":  {impl.Box{X1: 1, Y1: 2, X2: 3, Y2: 4}, impl.Box{X1: 1, Y1: 2, X2: 30, Y2: 40}},
		"right below": {impl.Box{X1: 41, Y1: 52, X2: 63, Y2: 74}, impl.Box{X1: 10, Y1: 20, X2: 63, Y2: 74}},
		"overlapping": {impl.Box{X1: 1, Y1: 22, X2: 12, Y2: 90}, impl.Box{X1: 1, Y1: 20, X2: 30, Y2: 90}},
		"zero":        {impl.Box{}, impl.Box{X2: 30, Y2: 40}},
		"the corner":  {impl.Box{X1: impl.MaxCoord, Y1: impl.MaxCoord, X2: impl.MaxCoord, Y2: impl.MaxCoord}, impl.Box{X1: 10, Y1: 20, X2: impl.MaxCoord, Y2: impl.MaxCoord}},
	}
	for name, c := range cases {
		b, code := impl.JoinBoxes(one, c.other)
		is(t, name, all(b, code), all(c.sum, impl.OK))
		b, code = impl.JoinBoxes(c.other, one)
		is(t, name+" exchanged", all(b, code), all(c.sum, impl.OK))
	}
	for name, wrong := range wrongBoxes() {
		b, code := impl.JoinBoxes(one, wrong)
		is(t, name, all(b, code), all(impl.Box{}, impl.ErrInvalid))
		b, code = impl.JoinBoxes(wrong, one)
		is(t, name+" exchanged", all(b, code), all(impl.Box{}, impl.ErrInvalid))
		b, code = impl.JoinBoxes(wrong, wrong)
		is(t, name+" twice", all(b, code), all(impl.Box{}, impl.ErrInvalid))
	}
}

func TestAddStroke(t *testing.T) {
	one := stroke(point(1, 1, 10), point(2, 2, 20))
	next := stroke(point(3, 3, 21), point(4, 4, 22))
	i, code := impl.AddStroke(impl.Ink{}, one)
	is(t, "to no strokes", all(i, code), all(ink(one), impl.OK))
	i, code = impl.AddStroke(impl.Ink{}, stroke(point(0, 0, 0)))
	is(t, "at the time 0", all(i, code), all(ink(stroke(point(0, 0, 0))), impl.OK))
	i, code = impl.AddStroke(ink(one), next)
	is(t, "to a stroke", all(i, code), all(ink(one, next), impl.OK))
	last := stroke(point(9, 9, impl.MaxTime))
	i, code = impl.AddStroke(ink(one, next), last)
	is(t, "to two strokes", all(i, code), all(ink(one, next, last), impl.OK))
	i, code = impl.AddStroke(inkWith(impl.MaxStrokes-1, 2), strokeFrom((impl.MaxStrokes-1)*1000, 2))
	is(t, "up to the limit", all(i, code), all(inkWith(impl.MaxStrokes, 2), impl.OK))
}

func TestAddStrokeErrors(t *testing.T) {
	one := stroke(point(1, 1, 10), point(2, 2, 20))
	late := stroke(point(1, 1, impl.MaxTime))
	early := stroke(point(1, 1, 0))
	full := inkWith(impl.MaxStrokes, 1)
	type arguments struct {
		i impl.Ink
		s impl.Stroke
	}
	cases := map[string]struct {
		arguments
		code int64
	}{
		"full":                       {arguments{full, late}, impl.ErrFull},
		"full before state":          {arguments{full, early}, impl.ErrFull},
		"at the end of the last one": {arguments{ink(one), stroke(point(1, 1, 20))}, impl.ErrState},
		"within the last one":        {arguments{ink(one), stroke(point(1, 1, 15), point(1, 1, 30))}, impl.ErrState},
		"before the last one":        {arguments{ink(one), early}, impl.ErrState},
		"behind the first one only":  {arguments{ink(early, one), stroke(point(1, 1, 1))}, impl.ErrState},
		"invalid before full":        {arguments{full, stroke()}, impl.ErrInvalid},
		"invalid before state":       {arguments{ink(one), stroke(point(1, 1, 3), point(1, 1, 3))}, impl.ErrInvalid},
	}
	for name, c := range cases {
		i, code := impl.AddStroke(c.i, c.s)
		is(t, name, all(i, code), all(impl.Ink{}, c.code))
	}
	for name, wrong := range wrongStrokes() {
		i, code := impl.AddStroke(impl.Ink{}, wrong)
		is(t, "stroke: "+name, all(i, code), all(impl.Ink{}, impl.ErrInvalid))
	}
	for name, wrong := range wrongInks() {
		i, code := impl.AddStroke(wrong, late)
		is(t, "ink: "+name, all(i, code), all(impl.Ink{}, impl.ErrInvalid))
	}
}

func TestCutInk(t *testing.T) {
	for n := range int64(5) {
		whole := inkWith(n, 3)
		for from := int64(-2); from <= n+2; from++ {
			for to := int64(-2); to <= n+2; to++ {
				name := strings.Join([]string{"cut", impl.Decimal(n), impl.Decimal(from), impl.Decimal(to)}, " ")
				i, code := impl.CutInk(whole, from, to)
				if 0 <= from && from <= to && to <= n {
					is(t, name, all(i, code), all(ink(whole.Strokes[from:to]...), impl.OK))
				} else {
					is(t, name, all(i, code), all(impl.Ink{}, impl.ErrRange))
				}
			}
		}
	}
	most := inkWith(impl.MaxStrokes, impl.MaxPoints)
	i, code := impl.CutInk(most, 0, impl.MaxStrokes)
	is(t, "all strokes", all(i, code), all(most, impl.OK))
	for _, ends := range [][2]int64{{leastInt, 1}, {0, greatestInt}, {leastInt, greatestInt}, {greatestInt, leastInt}, {greatestInt, greatestInt}, {0, impl.MaxStrokes + 1}} {
		i, code = impl.CutInk(most, ends[0], ends[1])
		is(t, "ends far outside", all(i, code), all(impl.Ink{}, impl.ErrRange))
	}
	for name, wrong := range wrongInks() {
		i, code = impl.CutInk(wrong, 0, 0)
		is(t, name, all(i, code), all(impl.Ink{}, impl.ErrInvalid))
		i, code = impl.CutInk(wrong, 2, -1)
		is(t, "invalid before range: "+name, all(i, code), all(impl.Ink{}, impl.ErrInvalid))
	}
}

func TestMoveInk(t *testing.T) {
	one := ink(stroke(point(10, 20, 0), point(30, 25, 8)), stroke(point(15, 40, 9)))
	cases := map[string]struct {
		dx, dy int64
		want   impl.Ink
	}{
		"nowhere":        {0, 0, one},
		"right and down": {5, 6, ink(stroke(point(15, 26, 0), point(35, 31, 8)), stroke(point(20, 46, 9)))},
		"to the left":    {-10, 0, ink(stroke(point(0, 20, 0), point(20, 25, 8)), stroke(point(5, 40, 9)))},
		"to the top":     {0, -20, ink(stroke(point(10, 0, 0), point(30, 5, 8)), stroke(point(15, 20, 9)))},
		"to the right":   {4065, 0, ink(stroke(point(4075, 20, 0), point(4095, 25, 8)), stroke(point(4080, 40, 9)))},
		"to the bottom":  {0, 4055, ink(stroke(point(10, 4075, 0), point(30, 4080, 8)), stroke(point(15, 4095, 9)))},
	}
	for name, c := range cases {
		i, code := impl.MoveInk(one, c.dx, c.dy)
		is(t, name, all(i, code), all(c.want, impl.OK))
	}
	outside := [][2]int64{
		{-11, 0}, {4066, 0}, {0, -21}, {0, 4056}, {leastInt, 0}, {greatestInt, 0}, {0, leastInt}, {0, greatestInt},
		{greatestInt, greatestInt}, {leastInt, leastInt}, {leastInt + 4095, 0}, {greatestInt - 4095, 0}, {1 << 32, 0}, {0, -1 << 32},
	}
	for _, way := range outside {
		i, code := impl.MoveInk(one, way[0], way[1])
		is(t, "outside "+impl.Decimal(way[0])+" "+impl.Decimal(way[1]), all(i, code), all(impl.Ink{}, impl.ErrRange))
	}
	for name, wrong := range wrongInks() {
		for _, d := range []int64{0, 1, leastInt, greatestInt} {
			i, code := impl.MoveInk(wrong, d, d)
			is(t, name, all(i, code), all(impl.Ink{}, impl.ErrInvalid))
		}
	}
}

// TestMoveIntoValidity moves ink that would be valid at the other place.
func TestMoveIntoValidity(t *testing.T) {
	i, code := impl.MoveInk(ink(stroke(point(-1, 5, 0))), 1, 0)
	is(t, "from the left", all(i, code), all(impl.Ink{}, impl.ErrInvalid))
	i, code = impl.MoveInk(ink(stroke(point(5, impl.MaxCoord+1, 0))), 0, -1)
	is(t, "from below", all(i, code), all(impl.Ink{}, impl.ErrInvalid))
}

func TestMoveNoStrokes(t *testing.T) {
	for _, d := range []int64{0, 1, -1, 5000, -5000, leastInt, greatestInt} {
		i, code := impl.MoveInk(impl.Ink{}, d, -d)
		is(t, "by "+impl.Decimal(d), all(i, code), all(impl.Ink{}, impl.OK))
	}
}

func TestPointCount(t *testing.T) {
	cases := map[string]struct {
		i impl.Ink
		n int64
	}{
		"no strokes":    {impl.Ink{}, 0},
		"empty strokes": {impl.Ink{Strokes: []impl.Stroke{}}, 0},
		"one point":     {ink(stroke(point(1, 1, 1))), 1},
		"two strokes":   {ink(strokeFrom(0, 3), strokeFrom(10, 4)), 7},
		"the most":      {inkWith(impl.MaxStrokes, impl.MaxPoints), impl.MaxStrokes * impl.MaxPoints},
	}
	for name, c := range cases {
		n, code := impl.PointCount(c.i)
		is(t, name, all(n, code), all(c.n, impl.OK))
	}
	for name, wrong := range wrongInks() {
		n, code := impl.PointCount(wrong)
		is(t, name, all(n, code), all(int64(0), impl.ErrInvalid))
	}
}

// textsOfInk are inks and their texts.
func textsOfInk() map[string]impl.Ink {
	return map[string]impl.Ink{
		"":                               {},
		"10,20,0 30,25,8\n":              ink(stroke(point(10, 20, 0), point(30, 25, 8))),
		"0,0,0\n":                        ink(stroke(point(0, 0, 0))),
		"4095,4095,3600000\n":            ink(stroke(point(impl.MaxCoord, impl.MaxCoord, impl.MaxTime))),
		"1,2,3 4,5,6\n7,8,9\n":           ink(stroke(point(1, 2, 3), point(4, 5, 6)), stroke(point(7, 8, 9))),
		"1,2,3\n4,5,6 7,8,9\n10,11,12\n": ink(stroke(point(1, 2, 3)), stroke(point(4, 5, 6), point(7, 8, 9)), stroke(point(10, 11, 12))),
	}
}

func TestInkText(t *testing.T) {
	for text, i := range textsOfInk() {
		is(t, strconv.Quote(text), impl.InkText(i), text)
	}
	for name, wrong := range wrongInks() {
		is(t, name, impl.InkText(wrong), "")
	}
}

func TestReadInk(t *testing.T) {
	for text, want := range textsOfInk() {
		i, ok := impl.ReadInk(text)
		is(t, strconv.Quote(text), all(i, ok), all(want, true))
	}
}

// wrongInkTexts are nearly texts of ink.
func wrongInkTexts() []string {
	return []string{
		"\n", "\n\n", " ", " \n", ",", ",\n", ",,\n", "x", "\x00", "\xff\n",
		"1,2,3", "1,2,3\n4,5,6", "\n1,2,3\n", "1,2,3\n\n", "1,2,3\n\n4,5,6\n", "1,2,3\r\n", "1,2,3\n\x00", "1,2,3\n ",
		" 1,2,3\n", "1,2,3 \n", "1,2,3  4,5,6\n", "1,2,3\t4,5,6\n", "1,2,3\n 4,5,6\n", "1,2,3 \n4,5,6\n", "1, 2,3\n", "1 ,2,3\n",
		"1,2\n", "1,2,3,4\n", "1,2,\n", ",2,3\n", "1,,3\n", "1,2,3,\n", ",1,2,3\n", "1,2,3 4,5\n", "1,2,3 4\n", "1,2,3,4,5,6\n", "1;2;3\n", "1.2.3\n", "1 2 3\n",
		"01,2,3\n", "1,02,3\n", "1,2,03\n", "00,2,3\n", "+1,2,3\n", "1,+2,3\n", "1,2,+3\n", "-0,2,3\n", "1,-0,3\n", "1,2,-0\n", "-,2,3\n", "1,-,3\n", "1,2,-\n", "1,2,+\n",
		"-1,2,3\n", "1,-2,3\n", "1,2,-3\n", "4096,2,3\n", "1,4096,3\n", "1,2,3600001\n", "a,2,3\n", "1,b,3\n", "1,2,c\n", "1,2,3x\n", "x1,2,3\n", "0x1,2,3\n", "1e1,2,3\n", "1_0,2,3\n",
		"18446744073709551617,2,3\n", "1,2,18446744073709551619\n", "1000000000000000000,2,3\n",
		"1,2,3 4,5,3\n", "1,2,3 4,5,2\n", "1,2,3\n4,5,3\n", "1,2,3\n4,5,2\n", "1,2,3 4,5,9\n4,5,6\n",
		"１,2,3\n", "1,2,3\u00a04,5,6\n", "1,2,3\u20284,5,6\n", "\ufeff1,2,3\n", "{1 2 3}\n",
	}
}

func TestReadInkWrong(t *testing.T) {
	for _, text := range wrongInkTexts() {
		i, ok := impl.ReadInk(text)
		is(t, strconv.Quote(text), all(i, ok), all(impl.Ink{}, false))
	}
}

func TestReadInkLimits(t *testing.T) {
	lines := func(strokes, points int64) string {
		var text strings.Builder
		for s := range strokes {
			for p := range points {
				if p > 0 {
					text.WriteString(" ")
				}
				text.WriteString("1,1," + strconv.FormatInt(s*points+p, 10))
			}
			text.WriteString("\n")
		}
		return text.String()
	}
	i, ok := impl.ReadInk(lines(impl.MaxStrokes, impl.MaxPoints))
	is(t, "the most", all(ok, len(i.Strokes), len(i.Strokes[impl.MaxStrokes-1].Points)), all(true, impl.MaxStrokes, impl.MaxPoints))
	i, ok = impl.ReadInk(lines(impl.MaxStrokes+1, 1))
	is(t, "a stroke too many", all(i, ok), all(impl.Ink{}, false))
	i, ok = impl.ReadInk(lines(1, impl.MaxPoints+1))
	is(t, "a point too many", all(i, ok), all(impl.Ink{}, false))
	i, ok = impl.ReadInk(lines(3000, 100))
	is(t, "far too many", all(i, ok), all(impl.Ink{}, false))
}
