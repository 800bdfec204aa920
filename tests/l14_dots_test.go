package tests

import (
	"fmt"
	"slices"
	"testing"

	"loop.example/g00918/impl"
)

func TestLimitsOfSegmentation(t *testing.T) {
	is(t, "limits", row(impl.MaxDot, impl.DotNear, impl.MaxGroup), row(160, 40, 3))
}

// TestDotOfAnI has the example of the chapter.
func TestDotOfAnI(t *testing.T) {
	is(t, "the dot stands behind the i", all(impl.OrderOf(theInk())), all(row(0, 1, 3, 2, 4), impl.OK))
	is(t, "its home", all(impl.HomeOf(theInk(), 3)), all(1, impl.OK))
	is(t, "the ink of the i", all(impl.InkOfGroup(theInk(), group(1, 3))), all(ink(theInk().Strokes[1], theInk().Strokes[3]), impl.OK))
}

func TestIsDot(t *testing.T) {
	for name, c := range map[string]struct {
		s    impl.Stroke
		want bool
	}{
		"one point":                            {path(7, 8), true},
		"one point in the corner":              {path(0, 0), true},
		"one point in the other corner":        {path(4095, 4095), true},
		"one point several times":              {path(7, 8, 7, 8, 7, 8), true},
		"as wide as a dot":                     {path(100, 50, 260, 50), true},
		"one more":                             {path(100, 50, 261, 50), false},
		"as high as a dot":                     {path(100, 50, 100, 210), true},
		"one more in height":                   {path(100, 50, 100, 211), false},
		"as great as a dot":                    {path(100, 50, 260, 210), true},
		"one more in both":                     {path(100, 50, 261, 211), false},
		"wide and low":                         {path(100, 50, 400, 51), false},
		"narrow and high":                      {path(100, 50, 101, 400), false},
		"from right to left":                   {path(260, 50, 100, 50), true},
		"one more, from right to left":         {path(261, 50, 100, 50), false},
		"upwards":                              {path(100, 210, 100, 50), true},
		"one more, upwards":                    {path(100, 211, 100, 50), false},
		"there and back":                       {path(100, 50, 260, 50, 100, 50), true},
		"one more, there and back":             {path(100, 50, 261, 50, 100, 50), false},
		"the ends are near, the middle is not": {path(100, 50, 100, 300, 101, 50), false},
		"the whole width":                      {path(0, 7, 4095, 7), false},
		"the whole height":                     {path(7, 0, 7, 4095), false},
		"long, but in a small box":             {path(0, 0, 160, 160, 0, 160, 160, 0, 0, 0), true},
		"at the right lower corner":            {path(3935, 3935, 4095, 4095), true},
		"one more, at the right lower corner":  {path(3934, 3935, 4095, 4095), false},
		"as many points as there may be":       {inkWith(1, impl.MaxPoints).Strokes[0], true},
		"the sides together are more":          {path(100, 50, 250, 200), true},
	} {
		is(t, name, impl.IsDot(c.s), c.want)
	}
	for name, s := range wrongStrokes() {
		is(t, name, impl.IsDot(s), false)
	}
	for _, n := range extremes() {
		is(t, "extremes", all(impl.IsDot(stroke(point(n, n, 5))), impl.IsDot(stroke(point(5, 5, n))), impl.IsDot(stroke(point(n, 5, 0), point(-n, 5, 1)))), all(false, false, false))
	}
}

// TestIsDotOfAllSides has all boxes next to the limits.
func TestIsDotOfAllSides(t *testing.T) {
	for width := int64(155); width <= 165; width++ {
		for height := int64(155); height <= 165; height++ {
			s := path(1000, 2000+height, 1000+width, 2000)
			is(t, pair(width, height), impl.IsDot(s), width <= 160 && height <= 160)
		}
	}
	s := source(410)
	for _, i := range manyInks(&s) {
		for at, one := range i.Strokes {
			is(t, "any stroke", impl.IsDot(one), isSmall(boxesIn(i)[at]))
		}
	}
}

func TestHomeOf(t *testing.T) {
	for name, c := range map[string]struct {
		i    impl.Ink
		at   int64
		want int64
	}{
		"a letter":                                        {inkOf(letter(100, 300)), 0, -1},
		"a dot alone":                                     {inkOf(speck(100, 110)), 0, -1},
		"a dot behind a letter":                           {inkOf(letter(100, 300), speck(200, 210)), 1, 0},
		"a dot before a letter":                           {inkOf(speck(200, 210), letter(100, 300)), 0, -1},
		"a letter behind a dot":                           {inkOf(speck(200, 210), letter(100, 300)), 1, -1},
		"a letter behind a letter":                        {inkOf(letter(100, 300), letter(100, 300)), 1, -1},
		"only dots before it":                             {inkOf(speck(200, 210), speck(200, 210), speck(200, 210)), 2, -1},
		"a dot is no home":                                {inkOf(letter(100, 300), speck(200, 210), speck(200, 210)), 2, 0},
		"a stroke of one point is no home":                {inkOf(path(200, 400), speck(200, 210)), 1, -1},
		"one point":                                       {inkOf(letter(100, 300), path(200, 100)), 1, 0},
		"below the letter":                                {inkOf(letter(100, 300), path(200, 4000)), 1, 0},
		"far away on the right":                           {inkOf(letter(100, 300), speck(1000, 1010)), 1, -1},
		"far away on the left":                            {inkOf(letter(1000, 1300), speck(100, 110)), 1, -1},
		"one common integer on the right":                 {inkOf(letter(100, 300), speck(340, 350)), 1, 0},
		"none on the right":                               {inkOf(letter(100, 300), speck(341, 350)), 1, -1},
		"one common integer on the left":                  {inkOf(letter(400, 600), speck(350, 360)), 1, 0},
		"none on the left":                                {inkOf(letter(400, 600), speck(350, 359)), 1, -1},
		"one common integer for a point on the right":     {inkOf(letter(100, 300), path(340, 100)), 1, 0},
		"none for a point on the right":                   {inkOf(letter(100, 300), path(341, 100)), 1, -1},
		"one common integer for a point on the left":      {inkOf(letter(400, 600), path(360, 100)), 1, 0},
		"none for a point on the left":                    {inkOf(letter(400, 600), path(359, 100)), 1, -1},
		"one integer only, of an upright letter":          {inkOf(path(300, 300, 300, 600), speck(340, 350)), 1, 0},
		"none of an upright letter":                       {inkOf(path(300, 300, 300, 600), speck(341, 350)), 1, -1},
		"at the left border":                              {inkOf(path(0, 300, 0, 600), path(40, 0)), 1, 0},
		"beyond at the left border":                       {inkOf(path(0, 300, 0, 600), path(41, 0)), 1, -1},
		"at the right border":                             {inkOf(path(4095, 300, 4095, 600), path(4055, 0)), 1, 0},
		"beyond at the right border":                      {inkOf(path(4095, 300, 4095, 600), path(4054, 0)), 1, -1},
		"a dot at the left border":                        {inkOf(path(40, 300, 40, 600), path(0, 0)), 1, 0},
		"a dot at the right border":                       {inkOf(path(4055, 300, 4055, 600), path(4095, 0)), 1, 0},
		"the greatest dot":                                {inkOf(letter(300, 600), path(100, 100, 260, 260)), 1, 0},
		"one more than a dot":                             {inkOf(letter(100, 600), path(100, 100, 261, 100)), 1, -1},
		"one more than a dot in height":                   {inkOf(letter(100, 600), path(200, 100, 200, 261)), 1, -1},
		"too wide for a dot is a home":                    {inkOf(path(100, 100, 261, 100), speck(200, 210)), 1, 0},
		"too high for a dot is a home":                    {inkOf(path(200, 100, 200, 261), speck(200, 210)), 1, 0},
		"the nearer one of two":                           {inkOf(letter(100, 300), letter(310, 500), speck(400, 410)), 2, 1},
		"the first one is nearer":                         {inkOf(letter(310, 500), letter(100, 300), speck(400, 410)), 2, 0},
		"the one with more integers":                      {inkOf(letter(100, 300), letter(310, 500), speck(280, 290)), 2, 0},
		"the one with one more":                           {inkOf(letter(100, 299), letter(301, 500), speck(299, 300)), 2, 0},
		"the later one with one more":                     {inkOf(letter(100, 299), letter(301, 500), speck(300, 301)), 2, 1},
		"equally many":                                    {inkOf(letter(100, 299), letter(301, 500), speck(300, 300)), 2, 1},
		"equally many, exchanged":                         {inkOf(letter(301, 500), letter(100, 299), speck(300, 300)), 2, 1},
		"the last one of three":                           {inkOf(letter(100, 300), letter(100, 300), letter(100, 300), speck(200, 210)), 3, 2},
		"the last one of two, before one with fewer":      {inkOf(letter(100, 300), letter(100, 300), letter(205, 400), speck(200, 210)), 3, 1},
		"one with all integers is as good as a wider one": {inkOf(letter(100, 300), letter(160, 250), speck(200, 210)), 2, 1},
		"one integer in each of two":                      {inkOf(path(300, 300, 300, 600), path(200, 300, 200, 600), speck(240, 260)), 2, 1},
		"a stroke behind it is better":                    {inkOf(letter(100, 300), speck(330, 340), letter(250, 450)), 1, 0},
		"only a stroke behind it":                         {inkOf(letter(100, 300), speck(600, 610), letter(550, 700)), 1, -1},
		"the same ink, the last stroke":                   {inkOf(letter(100, 300), speck(600, 610), letter(550, 700)), 2, -1},
		"behind other dots":                               {inkOf(letter(100, 300), speck(150, 160), speck(200, 210), speck(250, 260)), 3, 0},
		"dots between do not count":                       {inkOf(letter(100, 300), speck(330, 490), speck(310, 320)), 2, 0},
		"a home far back":                                 {inkOf(letter(100, 300), letter(600, 800), letter(900, 1100), letter(1200, 1400), speck(200, 210)), 4, 0},
	} {
		is(t, name, all(impl.HomeOf(c.i, c.at)), all(c.want, impl.OK))
		is(t, name+", by counting", homeFor(c.i, c.at), c.want)
	}
}

// TestHomeOfEachPlace moves a dot along two letters, with each width of a dot near the limit.
func TestHomeOfEachPlace(t *testing.T) {
	homes := map[int64]int{}
	for _, width := range row(0, 1, 7, 160) {
		for x := int64(0); x <= 700; x++ {
			i := inkOf(letter(200, 370), letter(400, 580), speck(x, x+width))
			home, code := impl.HomeOf(i, 2)
			is(t, pair(x, width), all(home, code), all(homeFor(i, 2), impl.OK))
			homes[home]++
		}
	}
	is(t, "all homes", all(homes[-1] > 300, homes[0] > 500, homes[1] > 500), all(true, true, true))
}

func TestHomeOfManyInks(t *testing.T) {
	s := source(411)
	homes, free := 0, 0
	for _, i := range manyWritings(&s) {
		for at := range int64(len(i.Strokes)) {
			want := homeFor(i, at)
			is(t, "any ink", all(impl.HomeOf(i, at)), all(want, impl.OK))
			if want >= 0 {
				homes++
			} else if impl.IsDot(i.Strokes[at]) {
				free++
			}
		}
	}
	is(t, "dots of both sorts", all(homes > 200, free > 200), all(true, true))
}

// wrongPlaces are no indices of so many strokes.
func wrongPlaces(count int64) []int64 {
	return append(extremes(), -1, -2, -count, count, count+1, count+2, count+impl.MaxStrokes, 1<<32+count)
}

func TestHomeOfErrors(t *testing.T) {
	for count := range int64(impl.MaxStrokes) + 1 {
		i := inkWith(count, 2)
		for _, at := range wrongPlaces(count) {
			if at < 0 || at >= count {
				is(t, pair(count, at), all(impl.HomeOf(i, at)), all(0, impl.ErrRange))
			}
		}
		for at := range count {
			is(t, pair(count, at), all(impl.HomeOf(i, at)), all(-1, impl.OK))
		}
	}
	is(t, "no strokes", all(impl.HomeOf(ink(), 0)), all(0, impl.ErrRange))
	for _, at := range append(wrongPlaces(2), 0, 1) {
		refusedInks(t, "HomeOf", func(i impl.Ink) []any { return all(impl.HomeOf(i, at)) }, 0)
	}
}

func TestOrderOf(t *testing.T) {
	i, far := letter(100, 300), letter(900, 1200)
	for name, c := range map[string]struct {
		i    impl.Ink
		want []int64
	}{
		"no strokes":                                   {ink(), nil},
		"one letter":                                   {inkOf(i), row(0)},
		"one dot":                                      {inkOf(speck(5, 9)), row(0)},
		"letters":                                      {inkOf(i, far, letter(500, 700)), row(0, 1, 2)},
		"letters from right to left":                   {inkOf(far, letter(500, 700), i), row(0, 1, 2)},
		"only dots":                                    {inkOf(speck(5, 9), speck(5, 9), speck(5, 9)), row(0, 1, 2)},
		"a dot behind its letter":                      {inkOf(i, speck(200, 210)), row(0, 1)},
		"a dot before its letter":                      {inkOf(speck(200, 210), i), row(0, 1)},
		"a dot behind the next letter":                 {inkOf(i, far, speck(200, 210)), row(0, 2, 1)},
		"a dot behind the letters that follow":         {inkOf(i, far, letter(500, 700), speck(200, 210)), row(0, 3, 1, 2)},
		"two dots of one letter":                       {inkOf(i, far, speck(200, 210), speck(150, 160)), row(0, 2, 3, 1)},
		"three dots of one letter":                     {inkOf(i, far, speck(200, 210), speck(150, 160), speck(220, 222)), row(0, 2, 3, 4, 1)},
		"dots of two letters":                          {inkOf(i, far, speck(200, 210), speck(1000, 1010)), row(0, 2, 1, 3)},
		"dots of two letters, exchanged":               {inkOf(i, far, speck(1000, 1010), speck(200, 210)), row(0, 3, 1, 2)},
		"dots of two letters in turn":                  {inkOf(i, far, speck(200, 210), speck(1000, 1010), speck(201, 211), speck(1001, 1011)), row(0, 2, 4, 1, 3, 5)},
		"dots between the letters":                     {inkOf(i, speck(200, 210), far, speck(1000, 1010), speck(220, 221)), row(0, 1, 4, 2, 3)},
		"a dot without a home at the end":              {inkOf(i, far, speck(600, 610)), row(0, 1, 2)},
		"a dot without a home at the beginning":        {inkOf(speck(600, 610), i, far), row(0, 1, 2)},
		"a dot without a home between letters":         {inkOf(i, speck(600, 610), far), row(0, 1, 2)},
		"a dot without a home before one with a home":  {inkOf(i, speck(600, 610), speck(200, 210)), row(0, 2, 1)},
		"a dot without a home behind one with a home":  {inkOf(i, far, speck(200, 210), speck(600, 610)), row(0, 2, 1, 3)},
		"dots without a home on both sides":            {inkOf(i, speck(600, 610), speck(200, 210), speck(600, 610)), row(0, 2, 1, 3)},
		"a dot at a dot without a home":                {inkOf(speck(600, 610), i, speck(600, 610), speck(200, 210)), row(0, 1, 3, 2)},
		"dots without a home between others":           {inkOf(i, far, speck(600, 610), speck(1000, 1010), speck(601, 611), speck(200, 210)), row(0, 5, 1, 3, 2, 4)},
		"a dot whose letter is written behind it":      {inkOf(i, speck(600, 610), letter(550, 750), speck(600, 610)), row(0, 1, 2, 3)},
		"the home of a dot without a home comes later": {inkOf(speck(200, 210), i, speck(200, 210)), row(0, 1, 2)},
		"the first and the last one":                   {inkOf(append(append([]impl.Stroke{i}, slices.Repeat([]impl.Stroke{far}, 14)...), speck(200, 210))...), row(0, 15, 1, 2, 3, 4, 5, 6, 7, 8, 9, 10, 11, 12, 13, 14)},
		"fifteen dots":                                 {inkOf(append([]impl.Stroke{i}, slices.Repeat([]impl.Stroke{speck(200, 210)}, 15)...)...), row(0, 1, 2, 3, 4, 5, 6, 7, 8, 9, 10, 11, 12, 13, 14, 15)},
		"fifteen dots in front of the last letter":     {inkOf(append(append([]impl.Stroke{far}, slices.Repeat([]impl.Stroke{speck(1000, 1010)}, 14)...), i)...), row(0, 1, 2, 3, 4, 5, 6, 7, 8, 9, 10, 11, 12, 13, 14, 15)},
		"fourteen dots of the first of two letters":    {inkOf(append([]impl.Stroke{i, far}, slices.Repeat([]impl.Stroke{speck(200, 210)}, 14)...)...), row(0, 2, 3, 4, 5, 6, 7, 8, 9, 10, 11, 12, 13, 14, 15, 1)},
	} {
		is(t, name, all(impl.OrderOf(c.i)), all(c.want, impl.OK))
	}
}

func TestOrderOfSmallWritings(t *testing.T) {
	moved := 0
	inks := smallWritings(4)
	for _, i := range inks {
		want := orderFor(i)
		is(t, "small ink", all(impl.OrderOf(i)), all(want, impl.OK))
		if !slices.IsSorted(want) {
			moved++
		}
	}
	is(t, "all of them", len(inks), 1+6+36+216+1296)
	is(t, "some are moved", moved > 100, true)
}

func TestOrderOfManyInks(t *testing.T) {
	s := source(412)
	moved, several, free := 0, 0, 0
	for _, i := range manyWritings(&s) {
		want := orderFor(i)
		is(t, "any ink", all(impl.OrderOf(i)), all(want, impl.OK))
		dots := map[int64]int{}
		for at := range want {
			home := homeFor(i, int64(at))
			dots[home]++
			if home >= 0 && dots[home] == 2 {
				several++
			}
			if home < 0 && isSmall(boxesIn(i)[at]) && !slices.IsSorted(want) {
				free++
			}
		}
		if !slices.IsSorted(want) {
			moved++
		}
	}
	is(t, "all sorts", all(moved > 100, several > 50, free > 50), all(true, true, true))
	refusedInks(t, "OrderOf", func(i impl.Ink) []any { return all(impl.OrderOf(i)) }, row())
}

// TestOrderOfCounts has each number of strokes, with the dot of the first letter as the last one.
func TestOrderOfCounts(t *testing.T) {
	for count := int64(2); count <= impl.MaxStrokes; count++ {
		strokes := []impl.Stroke{letter(100, 300)}
		want := row(0, count-1)
		for at := int64(1); at < count-1; at++ {
			strokes = append(strokes, letter(200*at+400, 200*at+590))
			want = append(want, at)
		}
		is(t, fmt.Sprint(count, " strokes"), all(impl.OrderOf(inkOf(append(strokes, speck(200, 210))...))), all(want, impl.OK))
	}
}
