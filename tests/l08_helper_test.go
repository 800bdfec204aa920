package tests

import (
	"fmt"
	"strconv"
	"strings"
	"testing"

	"loop.example/g00918/impl"
)

// What follows states chapter 8 in another way, without the program's functions.

func feat(x, y, d int64) impl.Feat { return impl.Feat{X: x, Y: y, D: d} }

// feats returns a list of features: X, Y and D of each, in turn.
func feats(numbers ...int64) []impl.Feat {
	var list []impl.Feat
	for at := 0; at < len(numbers); at += 3 {
		list = append(list, feat(numbers[at], numbers[at+1], numbers[at+2]))
	}
	return list
}

// resampledAlong returns the places of a stroke at equal parts of its length.
func resampledAlong(s impl.Stroke, n int64) []impl.Spot {
	var list []impl.Spot
	for part := range n {
		list = append(list, spotAlong(s, part, n-1))
	}
	return list
}

// directionAmong returns the direction at a place of a stroke: it looks back for the last place up to this one
// behind which there is another place.
func directionAmong(list []impl.Spot, at int) int64 {
	for ; at >= 0; at-- {
		if at == len(list)-1 {
			continue
		}
		if dx, dy := list[at+1].X-list[at].X, list[at+1].Y-list[at].Y; dx != 0 || dy != 0 {
			return sector(dx, dy)
		}
	}
	return 0
}

// featsIn returns the features that FeatsOf has to return; there is a stroke at least.
func featsIn(i impl.Ink, n int64) []impl.Feat {
	box := boxAround(placesOf(i))
	var list []impl.Feat
	for _, s := range i.Strokes {
		places := resampledAlong(s, n)
		for at, p := range normalIn(box, places) {
			list = append(list, feat(p.X, p.Y, directionAmong(places, at)))
		}
	}
	return list
}

// mirrorTable and backTable have the direction that is mirrored at the vertical, and the opposite one, for each direction.
func mirrorTable(d int64) int64 { return []int64{4, 3, 2, 1, 0, 7, 6, 5}[d] }

func backTable(d int64) int64 { return []int64{4, 5, 6, 7, 0, 1, 2, 3}[d] }

// mirrorOf returns the features that MirrorFeats has to return.
func mirrorOf(list []impl.Feat) []impl.Feat {
	var with []impl.Feat
	for _, f := range list {
		with = append(with, feat(255-f.X, f.Y, mirrorTable(f.D)))
	}
	return with
}

// backOf returns the features that BackFeats has to return.
func backOf(list []impl.Feat) []impl.Feat {
	var back []impl.Feat
	for at := range list {
		f := list[len(list)-1-at]
		back = append(back, feat(f.X, f.Y, backTable(f.D)))
	}
	return back
}

// countsOf returns the counts that DirectionCounts has to return.
func countsOf(list []impl.Feat) []int64 {
	counts := make([]int64, 8)
	for _, f := range list {
		counts[f.D]++
	}
	return counts
}

// meanOf returns the mean place of features; there is one at least.
func meanOf(list []impl.Feat) impl.Spot {
	x, y := int64(0), int64(0)
	for _, f := range list {
		x, y = x+f.X, y+f.Y
	}
	return spot(rounded(x, int64(len(list))), rounded(y, int64(len(list))))
}

// textOf returns the text of features, valid or not.
func textOf(list []impl.Feat) string {
	var words []string
	for _, f := range list {
		words = append(words, fmt.Sprintf("%d,%d,%d", f.X, f.Y, f.D))
	}
	return strings.Join(words, " ")
}

// wrongFeats are invalid, each for one reason.
func wrongFeats() map[string]impl.Feat {
	wrong := map[string]impl.Feat{
		"X -1":            feat(-1, 6, 3),
		"X too great":     feat(impl.NormSide+1, 6, 3),
		"Y -1":            feat(5, -1, 3),
		"Y too great":     feat(5, impl.NormSide+1, 3),
		"D -1":            feat(5, 6, -1),
		"D too great":     feat(5, 6, impl.Directions),
		"D far too great": feat(5, 6, impl.NormSide),
		"all -1":          feat(-1, -1, -1),
		"all too great":   feat(impl.NormSide+1, impl.NormSide+1, impl.Directions),
	}
	for _, n := range extremes() {
		name := strconv.FormatInt(n, 10)
		wrong["X "+name], wrong["Y "+name], wrong["D "+name] = feat(n, 6, 3), feat(5, n, 3), feat(5, 6, n)
		wrong["all "+name], wrong["X and Y "+name] = feat(n, n, n), feat(n, -n, 0)
	}
	return wrong
}

// wrongFeatLists are invalid, each for one reason.
func wrongFeatLists() map[string][]impl.Feat {
	s := source(120)
	lists := map[string][]impl.Feat{
		"nil":          nil,
		"empty":        {},
		"too many":     randomFeats(&s, impl.MaxFeatList+1),
		"far too many": make([]impl.Feat, 50000),
	}
	for name, f := range wrongFeats() {
		lists["only one: "+name] = []impl.Feat{f}
		lists["first one: "+name] = []impl.Feat{f, feat(1, 2, 3), feat(4, 5, 6)}
		lists["middle one: "+name] = []impl.Feat{feat(1, 2, 3), f, feat(4, 5, 6)}
		lists["last one: "+name] = []impl.Feat{feat(1, 2, 3), feat(4, 5, 6), f}
		lists["last one of the most: "+name] = append(randomFeats(&s, impl.MaxFeatList-1), f)
	}
	return lists
}

// randomFeats returns so many valid features.
func randomFeats(s *source, count int64) []impl.Feat {
	var list []impl.Feat
	for range count {
		list = append(list, feat(s.below(impl.NormSide+1), s.below(impl.NormSide+1), s.below(impl.Directions)))
	}
	return list
}

// manyFeats are valid lists of features of all sorts.
func manyFeats(s *source) [][]impl.Feat {
	lists := [][]impl.Feat{
		feats(0, 0, 0), feats(255, 255, 7), feats(0, 255, 4), feats(1, 2, 3, 1, 2, 3), feats(0, 10, 0, 5, 20, 2, 9, 30, 7),
		make([]impl.Feat, impl.MaxFeatList), randomFeats(s, impl.MaxFeatList), randomFeats(s, impl.MaxFeatList-1), randomFeats(s, 2),
	}
	for d := range int64(impl.Directions) {
		lists = append(lists, feats(5, 6, d), feats(5, 6, d, 255, 0, d))
	}
	for range 60 {
		lists = append(lists, randomFeats(s, 1+s.below(40)))
	}
	return lists
}

// refusedFeats checks a function of features with invalid ones.
func refusedFeats(t *testing.T, name string, call func(list []impl.Feat) []any, zero any) {
	t.Helper()
	for reason, list := range wrongFeatLists() {
		is(t, name+": "+reason, call(list), all(zero, impl.ErrInvalid))
	}
}
