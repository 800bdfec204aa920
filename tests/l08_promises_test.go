package tests

import (
	"strconv"
	"testing"

	"loop.example/g00918/impl"
)

// featCalls are calls of all functions of chapter 8.
func featCalls(i impl.Ink, list, other []impl.Feat, text string, n int64) []any {
	made, madeCode := impl.FeatsOf(i, n)
	mirrored, mirroredCode := impl.MirrorFeats(list)
	back, backCode := impl.BackFeats(list)
	counts, countsCode := impl.DirectionCounts(list)
	middle, middleCode := impl.MiddleFeat(list)
	read, ok := impl.ReadFeats(text)
	again, okAgain := impl.ReadFeats(impl.FeatsText(list))
	return all(
		impl.ValidFeat(feat(n, n, n)), impl.ValidFeats(list), impl.SameFeats(list, other), impl.FeatsText(list), made, madeCode,
		mirrored, mirroredCode, back, backCode, counts, countsCode, middle, middleCode, read, ok, again, okAgain,
	)
}

// TestPurityOfFeatures is for promise 1: calls return, leave their arguments as they are, and repeat their results.
func TestPurityOfFeatures(t *testing.T) {
	s := source(130)
	numbers := append(extremes(), 0, 1, 2, -1, 3, 7, impl.MaxFeats, impl.MaxFeats+1)
	lists := append(manyFeats(&s), inOrder(wrongFeatLists())...)
	texts := append(wrongFeatWords(), "", "1,2,3", "1,2,3 4,5,6", "1,2,3 ")
	inks := append(append(manyInks(&s), sampleInks()...), inOrder(wrongInks())...)
	for at := range max(len(inks), len(lists)) {
		i, text, n := inks[at%len(inks)], texts[at%len(texts)], numbers[s.below(int64(len(numbers)))]
		wide, list, other := roomy(i), roomy(lists[at%len(lists)]), roomy(lists[s.below(int64(len(lists)))])
		before := memoryOf(wide, list, other)
		first := featCalls(wide, list, other, text, n)
		is(t, "arguments of call "+strconv.Itoa(at), memoryOf(wide, list, other), before)
		is(t, "equal results of call "+strconv.Itoa(at), featCalls(roomy(i), roomy(list), roomy(other), text, n), first)
	}
}

// TestFeatureResultsAreNew is for promise 1: a result shares no memory with an argument or with another result.
func TestFeatureResultsAreNew(t *testing.T) {
	results := func(i impl.Ink, list []impl.Feat) map[string]any {
		made, _ := impl.FeatsOf(i, 5)
		mirrored, _ := impl.MirrorFeats(list)
		back, _ := impl.BackFeats(list)
		counts, _ := impl.DirectionCounts(list)
		read, _ := impl.ReadFeats(impl.FeatsText(list))
		return map[string]any{"FeatsOf": made, "MirrorFeats": mirrored, "BackFeats": back, "DirectionCounts": counts, "ReadFeats": read}
	}
	s := source(131)
	inks := append(manyInks(&s), sampleInks()...)
	for at, list := range manyFeats(&s) {
		wide, room := roomy(inks[at%len(inks)]), roomy(list)
		first, again := results(wide, room), results(wide, room)
		for name, result := range first {
			is(t, name, all(sharesMemory(result, wide, room), sharesMemory(result, inOrder(again)...)), all(false, false))
		}
	}
}

// TestResultsWhenFeaturesAreOverwritten is for promise 1, with what can be seen of it from without.
func TestResultsWhenFeaturesAreOverwritten(t *testing.T) {
	s := source(132)
	for _, list := range manyFeats(&s) {
		for name, call := range map[string]func([]impl.Feat) ([]impl.Feat, int64){"MirrorFeats": impl.MirrorFeats, "BackFeats": impl.BackFeats} {
			wide := roomy(list)
			before := memoryOf(wide)
			result, _ := call(wide)
			want := roomy(result)
			clear(result)
			is(t, name+": the argument when the result is overwritten", memoryOf(wide), before)
			result, _ = call(wide)
			clear(wide[:cap(wide)])
			is(t, name+": the result when the argument is overwritten", result, want)
		}
	}
}

// TestFeaturesOfSharedMemory gives ink whose strokes are parts of one slice.
func TestFeaturesOfSharedMemory(t *testing.T) {
	points := strokeFrom(0, 6).Points
	shared := ink(impl.Stroke{Points: points[:2]}, impl.Stroke{Points: points[2:4]}, impl.Stroke{Points: points[4:]})
	before := memoryOf(shared)
	for n := int64(2); n <= impl.MaxFeats; n++ {
		is(t, "as if apart", all(impl.FeatsOf(shared, n)), all(impl.FeatsOf(roomy(shared), n)))
	}
	is(t, "the points stay", memoryOf(shared), before)
}

// TestFeaturesOfMovedInk is for promise 8: features do not depend on where the ink is.
func TestFeaturesOfMovedInk(t *testing.T) {
	s := source(133)
	for _, i := range manyInks(&s) {
		b := boxAround(placesOf(i))
		room := func(low, high int64) []int64 {
			return row(-low, impl.MaxCoord-high, s.below(impl.MaxCoord-high+low+1)-low)
		}
		for _, n := range []int64{2, 3, 7, impl.MaxFeats} {
			want, code := impl.FeatsOf(i, n)
			is(t, "features", all(code, impl.ValidFeats(want), int64(len(want))), all(impl.OK, true, n*int64(len(i.Strokes))))
			for _, dx := range room(b.X1, b.X2) {
				for _, dy := range room(b.Y1, b.Y2) {
					moved, code := impl.MoveInk(i, dx, dy)
					is(t, "moved", code, impl.OK)
					is(t, "at another place", all(impl.FeatsOf(moved, n)), all(want, impl.OK))
				}
			}
		}
	}
}

// TestFeaturesDoNotDependOnTimes writes the ink slowly.
func TestFeaturesDoNotDependOnTimes(t *testing.T) {
	s := source(134)
	for _, i := range manyInks(&s) {
		slow, time := roomy(i), int64(0)
		for _, p := range slow.Strokes {
			for at := range p.Points {
				time += 1 + s.below(3000)
				p.Points[at].T = time
			}
		}
		is(t, "slowly", all(impl.FeatsOf(slow, 6)), all(impl.FeatsOf(i, 6)))
	}
}

// TestFeaturesTurnedTwice is for promise 8: turning features twice restores them.
func TestFeaturesTurnedTwice(t *testing.T) {
	s := source(135)
	lists := manyFeats(&s)
	for _, i := range manyInks(&s) {
		list, _ := impl.FeatsOf(i, 2+s.below(impl.MaxFeats-1))
		lists = append(lists, list)
	}
	for _, list := range lists {
		mirrored, code := impl.MirrorFeats(list)
		is(t, "mirrored", all(impl.ValidFeats(mirrored), code), all(true, impl.OK))
		is(t, "mirrored twice", all(impl.MirrorFeats(mirrored)), all(list, impl.OK))
		back, code := impl.BackFeats(list)
		is(t, "back", all(impl.ValidFeats(back), code), all(true, impl.OK))
		is(t, "back twice", all(impl.BackFeats(back)), all(list, impl.OK))
		// The order of both turns does not matter.
		one, _ := impl.MirrorFeats(back)
		is(t, "both", all(impl.BackFeats(mirrored)), all(one, impl.OK))
	}
}

// TestCountsOfTurnedFeatures has the same places and directions after all turns.
func TestCountsOfTurnedFeatures(t *testing.T) {
	s := source(136)
	for _, list := range manyFeats(&s) {
		counts, _ := impl.DirectionCounts(list)
		sum := int64(0)
		for _, n := range counts {
			sum += n
		}
		is(t, "all features", all(len(counts), sum), all(impl.Directions, int64(len(list))))
		mirrored, _ := impl.MirrorFeats(list)
		back, _ := impl.BackFeats(list)
		mirroredCounts, _ := impl.DirectionCounts(mirrored)
		backCounts, _ := impl.DirectionCounts(back)
		for d, n := range counts {
			is(t, "counts", all(mirroredCounts[mirrorTable(int64(d))], backCounts[backTable(int64(d))]), all(n, n))
		}
		is(t, "the middle of the same places", all(impl.MiddleFeat(back)), all(impl.MiddleFeat(list)))
	}
}

// TestFeaturesAreRestoredFromTexts reads the texts of features back.
func TestFeaturesAreRestoredFromTexts(t *testing.T) {
	s := source(137)
	lists := append(manyFeats(&s), inOrder(wrongFeatLists())...)
	for _, list := range lists {
		read, ok := impl.ReadFeats(impl.FeatsText(list))
		if !impl.ValidFeats(list) {
			is(t, "not valid", all(read, ok), all([]impl.Feat{}, false))
			noFeats(t, textOf(list))
			continue
		}
		is(t, "restored", all(read, ok, impl.SameFeats(read, list)), all(list, true, true))
	}
}

// TestFeaturesByTheOtherChapters puts features together from the functions of the chapters 5 to 7.
func TestFeaturesByTheOtherChapters(t *testing.T) {
	s := source(138)
	for _, i := range manyInks(&s) {
		n := 2 + s.below(impl.MaxFeats-1)
		box, _ := impl.BoxOfInk(i)
		var want []impl.Feat
		for _, p := range i.Strokes {
			places, _ := impl.Resample(p, n)
			normal, _ := impl.NormalSpots(places, box)
			direction := int64(0)
			for at, q := range places {
				if at+1 < len(places) {
					if d, code := impl.DirectionOf(places[at+1].X-q.X, places[at+1].Y-q.Y); code == impl.OK {
						direction = d
					}
				}
				want = append(want, feat(normal[at].X, normal[at].Y, direction))
			}
		}
		is(t, "by the other chapters", all(impl.FeatsOf(i, n)), all(want, impl.OK))
	}
}

// TestFeaturesOfMirroredInk has lines in a square of the side NormSide, where no place is rounded.
func TestFeaturesOfMirroredInk(t *testing.T) {
	s := source(139)
	for range 300 {
		lines := []impl.Stroke{path(0, s.below(256), 255, s.below(256))}
		for range s.below(6) {
			lines = append(lines, path(s.below(256), s.below(256), s.below(256), s.below(256)))
		}
		var others []impl.Stroke
		for _, p := range lines {
			// A stroke at one place has the direction 0 on both sides.
			if a, b := p.Points[0], p.Points[1]; a.X == b.X && a.Y == b.Y {
				p.Points[1].Y = (b.Y + 1) % 256
			}
			others = append(others, path(255-p.Points[0].X, p.Points[0].Y, 255-p.Points[1].X, p.Points[1].Y))
		}
		list, _ := impl.FeatsOf(inkOf(lines...), 2)
		mirrored, code := impl.MirrorFeats(list)
		is(t, "mirrored ink", all(impl.FeatsOf(inkOf(others...), 2)), all(mirrored, code))
	}
}

// TestFeaturesOfReversedLines has lines that are written backwards.
func TestFeaturesOfReversedLines(t *testing.T) {
	s := source(140)
	for range 300 {
		line := path(s.below(4096), s.below(2000), s.below(4096), 2000+s.below(2000))
		list, _ := impl.FeatsOf(inkOf(line), 2)
		back, code := impl.BackFeats(list)
		is(t, "backwards", all(impl.FeatsOf(inkOf(backwards(line)), 2)), all(back, code))
	}
}
