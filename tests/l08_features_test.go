package tests

import (
	"slices"
	"strconv"
	"testing"

	"loop.example/g00918/impl"
)

func TestLimitsOfFeatures(t *testing.T) {
	is(t, "limits", []int64{impl.MaxFeatList, impl.MaxFeats * impl.MaxStrokes}, []int64{384, 384})
}

func TestValidFeat(t *testing.T) {
	for _, x := range []int64{0, 1, 127, impl.NormSide - 1, impl.NormSide} {
		for _, y := range []int64{0, 1, 128, impl.NormSide - 1, impl.NormSide} {
			for d := range int64(impl.Directions) {
				is(t, "valid", impl.ValidFeat(feat(x, y, d)), true)
			}
		}
	}
	is(t, "zero", impl.ValidFeat(impl.Feat{}), true)
	for name, f := range wrongFeats() {
		is(t, name, impl.ValidFeat(f), false)
	}
}

// TestValidFeatByOneNumber has all numbers around the limits of one part of a feature.
func TestValidFeatByOneNumber(t *testing.T) {
	for n := int64(-300); n <= 600; n++ {
		inSide, inTurn := n >= 0 && n <= 255, n >= 0 && n <= 7
		is(t, "by "+strconv.FormatInt(n, 10), all(impl.ValidFeat(feat(n, 0, 0)), impl.ValidFeat(feat(255, n, 7)), impl.ValidFeat(feat(9, 9, n))), all(inSide, inSide, inTurn))
	}
}

func TestValidFeats(t *testing.T) {
	s := source(121)
	for _, list := range manyFeats(&s) {
		is(t, "valid", impl.ValidFeats(list), true)
	}
	for _, count := range []int64{1, 2, 383, impl.MaxFeatList} {
		is(t, "so many", impl.ValidFeats(randomFeats(&s, count)), true)
	}
	is(t, "one too many", impl.ValidFeats(make([]impl.Feat, impl.MaxFeatList+1)), false)
	for name, list := range wrongFeatLists() {
		is(t, name, impl.ValidFeats(list), false)
	}
	for at := range impl.MaxFeatList {
		list := make([]impl.Feat, impl.MaxFeatList)
		list[at].D = impl.Directions
		is(t, "a wrong one at "+strconv.Itoa(at), impl.ValidFeats(list), false)
	}
}

func TestSameFeats(t *testing.T) {
	list := feats(1, 2, 3, 4, 5, 6)
	for name, lists := range map[string][2][]impl.Feat{
		"none":            {nil, nil},
		"nil and empty":   {nil, {}},
		"empty and nil":   {{}, nil},
		"equal ones":      {list, feats(1, 2, 3, 4, 5, 6)},
		"the same memory": {list, list},
		"not valid":       {feats(leastInt, greatestInt, -1), feats(leastInt, greatestInt, -1)},
		"too many":        {make([]impl.Feat, 1000), make([]impl.Feat, 1000)},
		"unused capacity": {list, roomy(list)},
	} {
		is(t, name, impl.SameFeats(lists[0], lists[1]), true)
	}
	for name, other := range map[string][]impl.Feat{
		"none": nil, "empty": {}, "fewer": feats(1, 2, 3), "more": feats(1, 2, 3, 4, 5, 6, 0, 0, 0), "the first X": feats(0, 2, 3, 4, 5, 6),
		"the first Y": feats(1, 0, 3, 4, 5, 6), "the first D": feats(1, 2, 0, 4, 5, 6), "the last X": feats(1, 2, 3, 0, 5, 6), "the last Y": feats(1, 2, 3, 4, 0, 6),
		"the last D": feats(1, 2, 3, 4, 5, 0), "another order": feats(4, 5, 6, 1, 2, 3), "exchanged parts": feats(2, 1, 3, 5, 4, 6),
		"not valid": feats(leastInt, 2, 3, 4, 5, 6), "another turn": feats(1, 2, 3+impl.Directions, 4, 5, 6),
	} {
		is(t, name, all(impl.SameFeats(list, other), impl.SameFeats(other, list)), all(false, false))
	}
	is(t, "none and zero", impl.SameFeats(nil, feats(0, 0, 0)), false)
}

func TestMirrorFeats(t *testing.T) {
	for name, c := range map[string][2][]impl.Feat{
		"to the right":   {feats(0, 9, 0), feats(255, 9, 4)},
		"to the left":    {feats(255, 9, 4), feats(0, 9, 0)},
		"downwards":      {feats(127, 0, 2), feats(128, 0, 2)},
		"upwards":        {feats(128, 255, 6), feats(127, 255, 6)},
		"right and down": {feats(1, 1, 1), feats(254, 1, 3)},
		"left and down":  {feats(1, 1, 3), feats(254, 1, 1)},
		"left and up":    {feats(1, 1, 5), feats(254, 1, 7)},
		"right and up":   {feats(1, 1, 7), feats(254, 1, 5)},
		"in their order": {feats(0, 10, 0, 5, 20, 2, 9, 30, 7), feats(255, 10, 4, 250, 20, 2, 246, 30, 5)},
		"equal ones":     {feats(3, 3, 3, 3, 3, 3), feats(252, 3, 1, 252, 3, 1)},
		"the most":       {slices.Repeat(feats(1, 2, 3), impl.MaxFeatList), slices.Repeat(feats(254, 2, 1), impl.MaxFeatList)},
	} {
		is(t, name, all(impl.MirrorFeats(c[0])), all(c[1], impl.OK))
	}
	for d := range int64(impl.Directions) {
		for x := range int64(impl.NormSide + 1) {
			is(t, "one feature", all(impl.MirrorFeats(feats(x, 255-x, d))), all(feats(255-x, 255-x, mirrorTable(d)), impl.OK))
		}
	}
	s := source(122)
	for _, list := range manyFeats(&s) {
		is(t, "any features", all(impl.MirrorFeats(list)), all(mirrorOf(list), impl.OK))
	}
	refusedFeats(t, "MirrorFeats", func(list []impl.Feat) []any { return all(impl.MirrorFeats(list)) }, []impl.Feat{})
}

func TestBackFeats(t *testing.T) {
	for name, c := range map[string][2][]impl.Feat{
		"one":         {feats(1, 2, 3), feats(1, 2, 7)},
		"two":         {feats(1, 2, 3, 4, 5, 6), feats(4, 5, 2, 1, 2, 7)},
		"three":       {feats(0, 10, 0, 5, 20, 2, 9, 30, 7), feats(9, 30, 3, 5, 20, 6, 0, 10, 4)},
		"equal ones":  {feats(3, 3, 3, 3, 3, 3), feats(3, 3, 7, 3, 3, 7)},
		"the corners": {feats(0, 0, 0, 255, 255, 7), feats(255, 255, 3, 0, 0, 4)},
		"the most":    {append(make([]impl.Feat, impl.MaxFeatList-1), feat(1, 2, 3)), append(feats(1, 2, 7), slices.Repeat(feats(0, 0, 4), impl.MaxFeatList-1)...)},
	} {
		is(t, name, all(impl.BackFeats(c[0])), all(c[1], impl.OK))
	}
	for d := range int64(impl.Directions) {
		is(t, "one feature", all(impl.BackFeats(feats(7, 8, d))), all(feats(7, 8, backTable(d)), impl.OK))
		is(t, "the last feature", all(impl.BackFeats(feats(1, 2, 3, 7, 8, d))), all(feats(7, 8, backTable(d), 1, 2, 7), impl.OK))
	}
	s := source(123)
	for _, list := range manyFeats(&s) {
		is(t, "any features", all(impl.BackFeats(list)), all(backOf(list), impl.OK))
	}
	refusedFeats(t, "BackFeats", func(list []impl.Feat) []any { return all(impl.BackFeats(list)) }, []impl.Feat{})
}

func TestDirectionCounts(t *testing.T) {
	for d := range int64(impl.Directions) {
		one := make([]int64, impl.Directions)
		one[d] = 1
		is(t, "one feature", all(impl.DirectionCounts(feats(9, 8, d))), all(one, impl.OK))
		one[d] = impl.MaxFeatList
		is(t, "the most", all(impl.DirectionCounts(slices.Repeat(feats(9, 8, d), impl.MaxFeatList))), all(one, impl.OK))
		list := feats(9, 8, d, 9, 9, (d+1)%8, 8, 8, d)
		is(t, "three", all(impl.DirectionCounts(list)), all(countsOf(list), impl.OK))
	}
	is(t, "several", all(impl.DirectionCounts(feats(0, 10, 0, 5, 20, 2, 9, 30, 7))), all(row(1, 0, 1, 0, 0, 0, 0, 1), impl.OK))
	is(t, "each", all(impl.DirectionCounts(feats(0, 0, 7, 0, 0, 6, 0, 0, 5, 0, 0, 4, 0, 0, 3, 0, 0, 2, 0, 0, 1, 0, 0, 0))), all(row(1, 1, 1, 1, 1, 1, 1, 1), impl.OK))
	is(t, "more and more", all(impl.DirectionCounts(feats(1, 2, 6, 3, 4, 5, 6, 7, 6, 8, 9, 0, 1, 2, 6))), all(row(1, 0, 0, 0, 0, 1, 3, 0), impl.OK))
	s := source(124)
	for _, list := range manyFeats(&s) {
		is(t, "any features", all(impl.DirectionCounts(list)), all(countsOf(list), impl.OK))
	}
	refusedFeats(t, "DirectionCounts", func(list []impl.Feat) []any { return all(impl.DirectionCounts(list)) }, []int64{})
}

func TestMiddleFeat(t *testing.T) {
	for name, c := range map[string]struct {
		list []impl.Feat
		want impl.Spot
	}{
		"one":                  {feats(7, 8, 5), spot(7, 8)},
		"the first place":      {feats(0, 0, 0), spot(0, 0)},
		"the last place":       {feats(255, 255, 7), spot(255, 255)},
		"X and Y":              {feats(0, 10, 0, 5, 20, 2, 9, 30, 7), spot(5, 20)},
		"in the middle":        {feats(0, 1, 7, 1, 2, 7), spot(1, 2)},
		"X in the middle":      {feats(10, 4, 7, 13, 6, 7), spot(12, 5)},
		"Y in the middle":      {feats(4, 10, 7, 6, 13, 7), spot(5, 12)},
		"the last middle":      {feats(254, 255, 0, 255, 254, 0), spot(255, 255)},
		"below the middle":     {feats(0, 1, 0, 0, 1, 0, 1, 2, 0), spot(0, 1)},
		"beyond the middle":    {feats(0, 1, 0, 1, 2, 0, 1, 2, 0), spot(1, 2)},
		"of four":              {feats(0, 0, 0, 0, 0, 0, 0, 1, 0, 2, 1, 0), spot(1, 1)},
		"of four, less":        {feats(0, 0, 0, 0, 0, 0, 0, 0, 0, 1, 1, 0), spot(0, 0)},
		"of four, more":        {feats(0, 1, 0, 1, 1, 0, 1, 1, 0, 1, 0, 0), spot(1, 1)},
		"the most, the middle": {append(slices.Repeat(feats(8, 9, 0), 192), slices.Repeat(feats(9, 8, 0), 192)...), spot(9, 9)},
		"the most, below it":   {append(slices.Repeat(feats(8, 8, 0), 193), slices.Repeat(feats(9, 9, 0), 191)...), spot(8, 8)},
		"the most, beyond it":  {append(slices.Repeat(feats(8, 8, 0), 191), slices.Repeat(feats(9, 9, 0), 193)...), spot(9, 9)},
		"one short of it":      {append(slices.Repeat(feats(8, 8, 0), 192), slices.Repeat(feats(9, 9, 0), 191)...), spot(8, 8)},
		"the greatest sum":     {slices.Repeat(feats(255, 255, 0), impl.MaxFeatList), spot(255, 255)},
	} {
		is(t, name, all(impl.MiddleFeat(c.list)), all(c.want, impl.OK))
	}
	s := source(125)
	for range 5 {
		for _, list := range manyFeats(&s) {
			is(t, "any features", all(impl.MiddleFeat(list)), all(meanOf(list), impl.OK))
		}
	}
	refusedFeats(t, "MiddleFeat", func(list []impl.Feat) []any { return all(impl.MiddleFeat(list)) }, impl.Spot{})
}
