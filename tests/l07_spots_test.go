package tests

import (
	"slices"
	"strconv"
	"testing"

	"loop.example/g00918/impl"
)

func TestLimitsOfNormalization(t *testing.T) {
	is(t, "limits", []int64{impl.NormSide, impl.SlantUnit}, []int64{255, 256})
}

func TestBoxOfSpots(t *testing.T) {
	most := int64(impl.MaxCoord)
	cases := map[string]struct {
		list []impl.Spot
		want impl.Box
	}{
		"one place":           {spots(7, 8), boxOf(7, 8, 7, 8)},
		"the first corner":    {spots(0, 0), boxOf(0, 0, 0, 0)},
		"the last corner":     {spots(most, most), boxOf(most, most, most, most)},
		"the example":         {spots(0, 0, 100, 50), boxOf(0, 0, 100, 50)},
		"the other corners":   {spots(0, 50, 100, 0), boxOf(0, 0, 100, 50)},
		"the last one first":  {spots(100, 50, 0, 0), boxOf(0, 0, 100, 50)},
		"three in the middle": {spots(5, 9, 3, 10, 4, 2), boxOf(3, 2, 5, 10)},
		"equal places":        {spots(5, 9, 5, 9), boxOf(5, 9, 5, 9)},
		"flat":                {spots(5, 9, 50, 9, 20, 9), boxOf(5, 9, 50, 9)},
		"upright":             {spots(5, 9, 5, 90, 5, 20), boxOf(5, 9, 5, 90)},
		"everything":          {spots(most, 0, 0, most), boxOf(0, 0, most, most)},
	}
	for name, c := range cases {
		is(t, name, all(impl.BoxOfSpots(c.list)), all(c.want, impl.OK))
	}
	s := source(90)
	for range 500 {
		list := placesAlong(randomPath(&s, int64(2)<<s.below(12), 1+s.below(100)))
		is(t, "any places", all(impl.BoxOfSpots(list)), all(boxAround(list), impl.OK))
	}
	many := slices.Repeat(spots(9, 8, 7, 6, 3, 5), 20000)
	is(t, "very many", all(impl.BoxOfSpots(many)), all(boxOf(3, 5, 9, 8), impl.OK))
}

func TestBoxOfSpotsErrors(t *testing.T) {
	is(t, "nil", all(impl.BoxOfSpots(nil)), all(impl.Box{}, impl.ErrState))
	is(t, "empty", all(impl.BoxOfSpots([]impl.Spot{})), all(impl.Box{}, impl.ErrState))
	for _, n := range outOfRange() {
		for _, p := range []impl.Spot{spot(n, 5), spot(5, n), spot(n, n), spot(n, 0), spot(impl.MaxCoord, n)} {
			for _, list := range [][]impl.Spot{{p}, {p, spot(1, 2)}, {spot(1, 2), p}, {spot(1, 2), p, spot(3, 4)}, append(slices.Repeat(spots(1, 2), 300), p)} {
				is(t, "no coordinate "+strconv.FormatInt(n, 10), all(impl.BoxOfSpots(list)), all(impl.Box{}, impl.ErrInvalid))
			}
		}
	}
}

func TestNormalSpots(t *testing.T) {
	most := int64(impl.MaxCoord)
	cases := map[string]struct {
		b          impl.Box
		list, want []impl.Spot
	}{
		"the example":            {boxOf(0, 0, 100, 50), spots(100, 50), spots(255, 192)},
		"its other corners":      {boxOf(0, 0, 100, 50), spots(0, 0, 100, 0, 0, 50), spots(0, 64, 255, 64, 0, 192)},
		"an upright one":         {boxOf(0, 0, 50, 100), spots(0, 0, 50, 0, 0, 100, 50, 100), spots(64, 0, 192, 0, 64, 255, 192, 255)},
		"at another place":       {boxOf(20, 30, 120, 80), spots(120, 80, 20, 30), spots(255, 192, 0, 64)},
		"one point":              {boxOf(7, 8, 7, 8), spots(7, 8), spots(127, 127)},
		"the first point":        {boxOf(0, 0, 0, 0), spots(0, 0, 0, 0), spots(127, 127, 127, 127)},
		"the last point":         {boxOf(most, most, most, most), spots(most, most), spots(127, 127)},
		"flat":                   {boxOf(10, 8, 30, 8), spots(10, 8, 20, 8, 30, 8), spots(0, 127, 128, 127, 255, 127)},
		"upright":                {boxOf(8, 10, 8, 30), spots(8, 10, 8, 20, 8, 30), spots(127, 0, 127, 128, 127, 255)},
		"flat, of one step":      {boxOf(4, 4, 5, 4), spots(4, 4, 5, 4), spots(0, 127, 255, 127)},
		"upright, of one step":   {boxOf(4, 4, 4, 5), spots(4, 4, 4, 5), spots(127, 0, 127, 255)},
		"a square":               {boxOf(0, 0, 510, 510), spots(0, 0, 510, 0, 0, 510, 510, 510), spots(0, 0, 255, 0, 0, 255, 255, 255)},
		"everything":             {boxOf(0, 0, most, most), spots(0, 0, most, 0, 0, most, most, most), spots(0, 0, 255, 0, 0, 255, 255, 255)},
		"as flat as may be":      {boxOf(0, 9, most, 9), spots(0, 9, most, 9), spots(0, 127, 255, 127)},
		"in the middle":          {boxOf(0, 0, 510, 510), spots(1, 3, 509, 507), spots(1, 2, 255, 254)},
		"next to it":             {boxOf(0, 0, 1020, 1020), spots(1, 2, 3, 1, 5, 7), spots(0, 1, 1, 0, 1, 2)},
		"an odd rest":            {boxOf(0, 0, 255, 254), spots(0, 0, 255, 254), spots(0, 0, 255, 254)},
		"an even rest":           {boxOf(0, 0, 255, 253), spots(0, 0, 255, 253), spots(0, 1, 255, 254)},
		"a rest of a half":       {boxOf(0, 0, 510, 507), spots(0, 0, 510, 507), spots(0, 1, 255, 255)},
		"an even rest and half":  {boxOf(0, 0, 510, 505), spots(0, 0, 510, 505), spots(0, 1, 255, 254)},
		"places more than once":  {boxOf(0, 0, 10, 10), spots(5, 5, 5, 5, 0, 0), spots(128, 128, 128, 128, 0, 0)},
		"no places":              {boxOf(0, 0, 10, 10), nil, nil},
		"empty places":           {boxOf(0, 0, 10, 10), []impl.Spot{}, nil},
		"no places in one point": {boxOf(4, 4, 4, 4), nil, nil},
	}
	for name, c := range cases {
		is(t, name, all(impl.NormalSpots(c.list, c.b)), all(c.want, impl.OK))
	}
}

// randomBox returns a valid box; its sides are often equal or 0.
func randomBox(s *source) impl.Box {
	side := int64(1) << s.below(13)
	x, y := s.below(side), s.below(side)
	b := boxOf(x, y, x+s.below(side-x), y+s.below(side-y))
	switch s.below(6) {
	case 0:
		b.X2 = b.X1
	case 1:
		b.Y2 = b.Y1
	}
	return b
}

// inBox returns places in a box, at its corners first.
func inBox(s *source, b impl.Box, count int64) []impl.Spot {
	list := spots(b.X1, b.Y1, b.X2, b.Y1, b.X1, b.Y2, b.X2, b.Y2)
	for range count {
		list = append(list, spot(b.X1+s.below(b.X2-b.X1+1), b.Y1+s.below(b.Y2-b.Y1+1)))
	}
	return list
}

func TestNormalSpotsInAnyBox(t *testing.T) {
	s := source(91)
	for range 5000 {
		b := randomBox(&s)
		list := inBox(&s, b, s.below(12))
		is(t, "in any box", all(impl.NormalSpots(list, b)), all(normalIn(b, list), impl.OK))
	}
	for width := range int64(40) {
		for height := range int64(40) {
			b := boxOf(3, 7, 3+width, 7+height)
			list := inBox(&s, b, 9)
			is(t, "in a small box", all(impl.NormalSpots(list, b)), all(normalIn(b, list), impl.OK))
		}
	}
	many := slices.Repeat(spots(3, 7), 60000)
	is(t, "very many", all(impl.NormalSpots(many, boxOf(3, 7, 3, 7))), all(slices.Repeat(spots(127, 127), 60000), impl.OK))
}

func TestNormalSpotsErrors(t *testing.T) {
	for name, b := range wrongBoxes() {
		for _, list := range [][]impl.Spot{nil, spots(1, 2), spots(-1, -1), spots(leastInt, greatestInt)} {
			is(t, name, all(impl.NormalSpots(list, b)), all([]impl.Spot{}, impl.ErrInvalid))
		}
	}
	for _, b := range []impl.Box{boxOf(10, 20, 30, 40), boxOf(7, 7, 7, 7), boxOf(0, 0, impl.MaxCoord, impl.MaxCoord), boxOf(0, 5, 9, 5), boxOf(5, 0, 5, 9)} {
		inside := spot(b.X1, b.Y2)
		without := []impl.Spot{
			spot(b.X1-1, b.Y1), spot(b.X2+1, b.Y1), spot(b.X1, b.Y1-1), spot(b.X1, b.Y2+1), spot(b.X1-1, b.Y2), spot(b.X2+1, b.Y2), spot(b.X2, b.Y1-1),
			spot(b.X2, b.Y2+1), spot(b.X1-1, b.Y1-1), spot(b.X2+1, b.Y2+1),
		}
		for _, n := range extremes() {
			without = append(without, spot(n, b.Y1), spot(b.X1, n), spot(n, n), spot(n, -n))
		}
		for _, p := range without {
			for _, list := range [][]impl.Spot{{p}, {inside, p}, {p, inside}, {inside, p, inside}} {
				is(t, "without "+pair(p.X, p.Y), all(impl.NormalSpots(list, b)), all([]impl.Spot{}, impl.ErrRange))
			}
		}
		is(t, "inside", all(impl.NormalSpots([]impl.Spot{inside}, b)), all(normalIn(b, []impl.Spot{inside}), impl.OK))
	}
}
