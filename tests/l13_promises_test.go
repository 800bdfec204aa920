package tests

import (
	"slices"
	"testing"

	"loop.example/g00918/impl"
)

// hypCalls are calls of all functions of chapter 13.
func hypCalls(a, b []impl.Hyp, s impl.Store, i impl.Ink, with impl.Setting, label, text string, n int64) []any {
	return all(
		impl.ValidSetting(with), impl.ValidHyps(a), all(impl.HypsOf(s, i, with)), all(impl.MergeHyps(a, b, n)), all(impl.BestHyp(a)), all(impl.CostOf(a, label)),
		all(impl.MarginOf(a)), all(impl.RaiseHyps(a, n)), impl.HypsText(a), readHyps(text), readHyps(impl.HypsText(b)),
	)
}

// TestPurityOfHypotheses is for promise 1: calls return, leave their arguments as they are, and repeat their results.
func TestPurityOfHypotheses(t *testing.T) {
	s := source(400)
	lists, wrongLists, labels := manyHyps(&s), inOrder(wrongHyps()), append(eachOf(labelBytes), wrongLabels()...)
	stores, wrongOnes := manyStores(&s), inOrder(wrongStores())
	inks, settings := append(manyInks(&s), sampleInks()...), inOrder(wrongSettings())
	texts, numbers := append(wrongHypWords(), "none", "a:5", "a:5 b:6"), append(extremes(), 0, 1, 2, 3, impl.MaxHyps, impl.MaxHyps+1, -1, impl.MaxCost, impl.MaxCost+1)
	for range 1500 {
		list, other, made := lists[s.below(int64(len(lists)))], lists[s.below(int64(len(lists)))], stores[s.below(int64(len(stores)))]
		with := setting(2+s.below(4), 1+s.below(8), s.below(30))
		switch s.below(8) {
		case 0:
			list = wrongLists[s.below(int64(len(wrongLists)))]
		case 1:
			other = wrongLists[s.below(int64(len(wrongLists)))]
		case 2:
			made = wrongOnes[s.below(int64(len(wrongOnes)))]
		case 3:
			with = settings[s.below(int64(len(settings)))]
		}
		i, label, text, n := inks[s.below(int64(len(inks)))], labels[s.below(int64(len(labels)))], texts[s.below(int64(len(texts)))], numbers[s.below(int64(len(numbers)))]
		one, two, three, four := roomy(list), roomy(other), roomy(made), roomy(i)
		before := memoryOf(one, two, three, four)
		results := hypCalls(one, two, three, four, with, label, text, n)
		is(t, "arguments", memoryOf(one, two, three, four), before)
		is(t, "equal results", hypCalls(roomy(list), roomy(other), roomy(made), roomy(i), with, label, text, n), results)
	}
}

// TestHypothesesAgainAndAgain repeats calls in which the order of a map could be seen.
func TestHypothesesAgainAndAgain(t *testing.T) {
	level := hyps("abcdefgh", slices.Repeat(row(7), 8)...)
	other := hyps("ijklmnop", slices.Repeat(row(7), 8)...)
	made := barStore(0, "ponmlkjihgfedcba", make([]int64, 16)...)
	for range 300 {
		is(t, "merged", all(impl.MergeHyps(other, level, 8)), all(level, impl.OK))
		is(t, "of ink", all(impl.HypsOf(made, bar(), setting(2, 8, 0))), all(hyps("abcdefgh", make([]int64, 8)...), impl.OK))
		is(t, "valid", all(impl.ValidHyps(level), impl.HypsText(level)), all(true, "a:7 b:7 c:7 d:7 e:7 f:7 g:7 h:7"))
	}
}

// TestHypothesesWithExtremes has numbers near the ends of int64 in all places of a call.
func TestHypothesesWithExtremes(t *testing.T) {
	none := all([]impl.Hyp{}, impl.ErrInvalid)
	good := hyps("ab", 5, 6)
	for _, n := range extremes() {
		is(t, "numbers", all(all(impl.MergeHyps(good, good, n)), all(impl.RaiseHyps(good, n))), all(all([]impl.Hyp{}, impl.ErrRange), all([]impl.Hyp{}, impl.ErrRange)))
		for _, m := range extremes() {
			bad := hyps("ab", n, m)
			is(t, "valid", all(impl.ValidHyps(bad), impl.HypsText(bad), readHyps(hypsTextFor(bad))), all(false, "", all([]impl.Hyp{}, false)))
			is(t, "lists", all(all(impl.MergeHyps(bad, good, m)), all(impl.MergeHyps(good, bad, m)), all(impl.RaiseHyps(bad, m))), all(none, none, none))
			is(t, "one of them", all(all(impl.BestHyp(bad)), all(impl.CostOf(bad, "a")), all(impl.MarginOf(bad))), all(all(impl.Hyp{}, impl.ErrInvalid), all(0, impl.ErrInvalid), all(0, impl.ErrInvalid)))
			for _, with := range []impl.Setting{setting(n, m, 20), setting(2, n, m), setting(m, 3, n), setting(n, m, n)} {
				is(t, "a setting", all(impl.ValidSetting(with), all(impl.HypsOf(store(0), bar(), with))), all(false, none))
			}
			wrong := ink(stroke(point(n, m, 0), point(m, n, 1)))
			is(t, "ink", all(impl.HypsOf(store(0), wrong, setting(2, 3, 20))), none)
			is(t, "a store", all(impl.HypsOf(store(n, template("a", feats(n, m, n))), bar(), setting(2, 3, 20))), none)
		}
	}
}

// resultsOfHyps are results with memory of chapter 13, by their names.
func resultsOfHyps(a, b []impl.Hyp, s impl.Store, i impl.Ink) map[string]any {
	return map[string]any{
		"HypsOf": first(impl.HypsOf(s, i, setting(2, 8, 20))), "HypsOf, one": first(impl.HypsOf(s, i, setting(2, 1, 0))),
		"MergeHyps": first(impl.MergeHyps(a, b, 8)), "MergeHyps, one": first(impl.MergeHyps(a, b, 1)), "MergeHyps, twice": first(impl.MergeHyps(a, a, 8)),
		"MergeHyps, nothing behind": first(impl.MergeHyps(a, nil, 8)), "MergeHyps, nothing before": first(impl.MergeHyps(nil, b, 8)),
		"RaiseHyps": first(impl.RaiseHyps(a, 3)), "RaiseHyps by 0": first(impl.RaiseHyps(a, 0)), "ReadHyps": readHyps(impl.HypsText(a))[0],
	}
}

// TestHypResultsAreNew is for promise 1: a result shares no memory with an argument or with another result.
func TestHypResultsAreNew(t *testing.T) {
	s := source(401)
	made, i := roomy(barStore(1, "abcdefghijkl", randomNumbers(&s, 12, 9)...)), roomy(bar())
	for _, list := range manyHyps(&s) {
		a, b := roomy(list), roomy(randomHyps(&s, "abcd", 9))
		results, again := resultsOfHyps(a, b, made, i), resultsOfHyps(a, b, made, i)
		for name, result := range results {
			is(t, name, all(sharesMemory(result, a, b, made, i), sharesMemory(result, inOrder(again)...)), all(false, false))
		}
	}
	long := hyps("abcdef", 1, 2, 3, 4, 5, 6)
	for name, result := range resultsOfHyps(long[:3], long[3:], made, i) {
		is(t, name+" of parts of one list", sharesMemory(result, long), false)
	}
	is(t, "what shares memory", all(sharesMemory(long, long[2:]), sharesMemory(long, slices.Clone(long))), all(true, false))
}

// TestHypResultsWhenOverwritten is for promise 1, with what can be seen of it from without.
func TestHypResultsWhenOverwritten(t *testing.T) {
	s := source(402)
	for range 60 {
		a, b, made, i := roomy(randomHyps(&s, "abcdefghi", 9)), roomy(randomHyps(&s, "abcdefghi", 9)), roomy(barStore(1, "abcabc", randomNumbers(&s, 6, 9)...)), roomy(bar())
		before, want := memoryOf(a, b, made, i), hypCalls(a, b, made, i, setting(2, 3, 20), "a", "a:5", 3)
		for _, result := range resultsOfHyps(a, b, made, i) {
			if list, ok := result.([]impl.Hyp); ok {
				clear(list[:cap(list)])
			}
		}
		is(t, "the arguments when the results are overwritten", memoryOf(a, b, made, i), before)
		is(t, "further results", hypCalls(a, b, made, i, setting(2, 3, 20), "a", "a:5", 3), want)
		merged, raised := first(impl.MergeHyps(a, b, 8)), first(impl.RaiseHyps(a, 3))
		wantMerged, wantRaised := slices.Clone(merged), slices.Clone(raised)
		clear(a[:cap(a)])
		clear(b[:cap(b)])
		is(t, "the results when the arguments are overwritten", all(merged, raised), all(wantMerged, wantRaised))
	}
}

// TestHypothesesAreLeastCosts is for promise 13, with the program's own matches.
func TestHypothesesAreLeastCosts(t *testing.T) {
	s := source(403)
	for _, i := range manyInks(&s) {
		strokes := int64(len(i.Strokes))
		points := min(2+s.below(6), 72/strokes)
		made, pen := storeNear(&s, i, points), s.below(50)
		a, _ := impl.FeatsOf(i, points)
		matches, _ := impl.MatchesOf(made, a)
		list, code := impl.HypsOf(made, i, setting(points, 8, pen))
		is(t, "valid", all(impl.ValidHyps(list), code), all(true, impl.OK))
		for _, m := range matches {
			label, cost := made.Templates[m.Index].Label, m.Cost+pen*(strokes-1)
			least, code := impl.CostOf(list, label)
			switch {
			case code == impl.OK:
				is(t, "no template costs less", least <= cost, true)
			case len(list) < 8:
				t.Error("a label is missing:", label)
			default:
				is(t, "it comes later", standsBefore(list[7], hyp(label, cost)), true)
			}
		}
		for _, h := range list {
			isIt := func(m impl.Match) bool {
				return made.Templates[m.Index].Label == h.Label && m.Cost+pen*(strokes-1) == h.Cost
			}
			is(t, "a template with this cost", slices.ContainsFunc(matches, isIt), true)
		}
	}
}

// TestHypothesesOfParts merges the hypotheses of two parts of a store, in any order of its templates.
func TestHypothesesOfParts(t *testing.T) {
	s := source(404)
	for _, i := range manyInks(&s) {
		points := min(2+s.below(4), 72/int64(len(i.Strokes)))
		made, with := storeNear(&s, i, points), setting(points, 1+s.below(8), s.below(50))
		at := s.below(int64(len(made.Templates)) + 1)
		want, code := impl.HypsOf(made, i, with)
		a, _ := impl.HypsOf(store(made.Band, made.Templates[:at]...), i, with)
		b, _ := impl.HypsOf(store(made.Band, made.Templates[at:]...), i, with)
		is(t, "of two parts", all(impl.MergeHyps(a, b, with.Most)), all(want, code))
		back := slices.Clone(made.Templates)
		slices.Reverse(back)
		is(t, "in another order", all(impl.HypsOf(store(made.Band, back...), i, with)), all(want, code))
		free := with
		free.Pen = 0
		without, _ := impl.HypsOf(made, i, free)
		is(t, "raised by Pen", all(impl.RaiseHyps(without, with.Pen*int64(len(i.Strokes)-1))), all(want, code))
	}
}

// TestHypothesesAreRestoredFromTexts has texts back and forth.
func TestHypothesesAreRestoredFromTexts(t *testing.T) {
	s := source(405)
	for _, list := range manyHyps(&s) {
		text := impl.HypsText(list)
		read, ok := impl.ReadHyps(text)
		is(t, "restored", all(read, ok, impl.ValidHyps(read), impl.HypsText(read)), all(list, true, true, text))
	}
}
