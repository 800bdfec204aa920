package tests

import (
	"slices"
	"testing"

	"loop.example/g00918/impl"
)

// storeCalls are calls of all functions of chapter 11.
func storeCalls(s, other impl.Store, m impl.Template, a []impl.Feat, text string, k, index int64) []any {
	return all(
		impl.IsLabel(m.Label), impl.IsLabel(text), impl.ValidStore(s), impl.SameStore(s, other), impl.StoreText(s),
		all(impl.AddTemplate(s, m)), all(impl.RemoveTemplate(s, index)), all(impl.LabelsOf(s)), searchStore(s, a, k),
		all(impl.WrongTemplates(s, k)), readStore(text), readStore(impl.StoreText(s)),
	)
}

// TestPurityOfStores is for promise 1: calls return, leave their arguments as they are, and repeat their results.
func TestPurityOfStores(t *testing.T) {
	s := source(280)
	numbers := append(extremes(), 0, 1, 2, 3, 4, -1, 8, 39, impl.MaxTemplates, impl.MaxTemplates, impl.MaxTemplates+1)
	number := func() int64 { return numbers[s.below(int64(len(numbers)))] }
	right, wrong := manyStores(&s), inOrder(wrongStores())
	lists, wrongLists := sampleSeqs(&s), inOrder(wrongSeqs())
	templates, wrongOnes := mostOfStore(&s).Templates, inOrder(wrongTemplates())
	texts := append(append(wrongStoreLines(), wrongTemplateLines()...), "", "a", "store 2\ntemplate a 1,2,3\n")
	for range 700 {
		if s.below(4) == 0 {
			right, lists, templates = append(right, wrong[s.below(int64(len(wrong)))]), append(lists, wrongLists[s.below(int64(len(wrongLists)))]), append(templates, wrongOnes[s.below(int64(len(wrongOnes)))])
		}
		made, other := right[s.below(int64(len(right)))], right[s.below(int64(len(right)))]
		m, a := templates[s.below(int64(len(templates)))], lists[s.below(int64(len(lists)))]
		text, k, index := texts[s.below(int64(len(texts)))], number(), number()
		one, two, three, four := roomy(made), roomy(other), roomy(m), roomy(a)
		before := memoryOf(one, two, three, four)
		results := storeCalls(one, two, three, four, text, k, index)
		is(t, "arguments", memoryOf(one, two, three, four), before)
		is(t, "equal results", storeCalls(roomy(made), roomy(other), roomy(m), roomy(a), text, k, index), results)
	}
}

// TestStoresWithExtremes has numbers near the ends of int64 in all places of a call.
func TestStoresWithExtremes(t *testing.T) {
	a, good := line(1, 2), store(1, template("a", line(1, 2)))
	invalid := all(all(hits(), impl.ErrInvalid), all(hits(), impl.ErrInvalid), all("", impl.ErrInvalid))
	for _, n := range extremes() {
		is(t, "an index", all(impl.RemoveTemplate(good, n)), all(impl.Store{}, impl.ErrRange))
		is(t, "a number of templates", all(impl.WrongTemplates(good, n)), all(row(), impl.ErrRange))
		for _, m := range extremes() {
			wrong := feats(n, m, 0, m, n, 0)
			is(t, "in a sequence", searchStore(good, wrong, m), invalid)
			for _, bad := range []impl.Store{store(n, good.Templates...), store(1, template("a", wrong)), store(n, template("a", wrong)), store(n)} {
				is(t, "valid", all(impl.ValidStore(bad), impl.StoreText(bad), readStore(storeTextFor(bad))), all(false, "", all(impl.Store{}, false)))
				is(t, "in a store", searchStore(bad, a, m), invalid)
				is(t, "adding", all(impl.AddTemplate(bad, template("a", a))), all(impl.Store{}, impl.ErrInvalid))
				is(t, "removing", all(impl.RemoveTemplate(bad, m)), all(impl.Store{}, impl.ErrInvalid))
				is(t, "labels", all(impl.LabelsOf(bad)), all([]string{}, impl.ErrInvalid))
				is(t, "wrong ones", all(impl.WrongTemplates(bad, m)), all(row(), impl.ErrInvalid))
			}
			is(t, "adding", all(impl.AddTemplate(good, template("a", wrong))), all(impl.Store{}, impl.ErrInvalid))
		}
	}
}

// resultsOfStore are results with memory of chapter 11, by their names.
func resultsOfStore(s impl.Store, m impl.Template, a []impl.Feat) map[string]any {
	results := map[string]any{
		"AddTemplate": first(impl.AddTemplate(s, m)), "LabelsOf": first(impl.LabelsOf(s)), "MatchesOf": first(impl.MatchesOf(s, a)),
		"Nearest": first(impl.Nearest(s, a, 40)), "Nearest of 1": first(impl.Nearest(s, a, 1)), "WrongTemplates": first(impl.WrongTemplates(s, 3)),
		"ReadStore": readStore(impl.StoreText(s))[0], "AddTemplate to none": first(impl.AddTemplate(store(1), m)),
	}
	for at := range s.Templates {
		results["RemoveTemplate "+impl.Decimal(int64(at))] = first(impl.RemoveTemplate(s, int64(at)))
	}
	return results
}

// TestStoreResultsAreNew is for promise 1: a result shares no memory with an argument or with another result.
func TestStoreResultsAreNew(t *testing.T) {
	s := source(281)
	list := closeFeats(&s, impl.MaxSeq)
	// Templates that are the same memory, parts of it, and parts that follow each other in it.
	shared := labelled(72, "abcabc", list, list[:3], list[3:6], list, list[1:], list[:3])
	for _, made := range append(manyStores(&s)[:40], plainStore(), shared) {
		made, m, a := roomy(made), roomy(template("x", list)), roomy(list[5:9])
		one, again := resultsOfStore(made, m, a), resultsOfStore(made, m, a)
		for name, result := range one {
			is(t, name, all(sharesMemory(result, made, m, a), sharesMemory(result, inOrder(again)...)), all(false, false))
		}
	}
	own := template("x", shared.Templates[0].Feats)
	for name, result := range resultsOfStore(shared, own, list) {
		is(t, name+" of memory that is shared", sharesMemory(result, shared, own, list), false)
	}
	is(t, "what shares memory", all(sharesMemory(shared), sharesMemory(plainStore())), all(true, false))
}

// TestStoreResultsWhenOverwritten is for promise 1, with what can be seen of it from without.
func TestStoreResultsWhenOverwritten(t *testing.T) {
	s := source(282)
	for range 30 {
		made := roomy(randomStore(&s, 5, 12, "abc", closeFeats))
		m, a := roomy(template("x", closeFeats(&s, 5))), roomy(closeFeats(&s, 5))
		before, want := memoryOf(made, m, a), storeCalls(made, made, m, a, "", 3, 0)
		added, _ := impl.AddTemplate(made, m)
		removed, _ := impl.RemoveTemplate(made, 0)
		read, _ := impl.ReadStore(impl.StoreText(made))
		for _, result := range []impl.Store{added, removed, read} {
			templates := result.Templates[:cap(result.Templates)]
			for at := range templates {
				list := templates[at].Feats[:cap(templates[at].Feats)]
				for k := range list {
					list[k] = feat(-9, -9, -9)
				}
				templates[at] = template("spoilt", nil)
			}
		}
		is(t, "the arguments when the results are overwritten", memoryOf(made, m, a), before)
		is(t, "further results", storeCalls(made, made, m, a, "", 3, 0), want)
	}
}

// TestResultsWhenStoresAreOverwritten changes the arguments and looks at the results.
func TestResultsWhenStoresAreOverwritten(t *testing.T) {
	made, m := plainStore(), template("x", line(1, 2))
	added, _ := impl.AddTemplate(made, m)
	removed, _ := impl.RemoveTemplate(made, 1)
	for _, list := range [][]impl.Feat{made.Templates[0].Feats, made.Templates[1].Feats, made.Templates[2].Feats, m.Feats} {
		list[0] = feat(-9, -9, -9)
	}
	clear(made.Templates)
	right := plainStore().Templates
	is(t, "added", added, store(2, right[0], right[1], right[2], template("x", line(1, 2))))
	is(t, "removed", removed, store(2, right[0], right[2]))
}

// TestStoresAreRestoredFromTexts is for promise 11.
func TestStoresAreRestoredFromTexts(t *testing.T) {
	s := source(283)
	for _, made := range append(manyStores(&s), plainStore()) {
		text := impl.StoreText(made)
		is(t, "restored", readStore(text), all(made, true))
		read, _ := impl.ReadStore(text)
		is(t, "the same", all(impl.SameStore(read, made), impl.ValidStore(read), impl.StoreText(read)), all(true, true, text))
		for _, part := range []string{text[1:], text[:len(text)-1], text + "\n", text + " ", "\n" + text, " " + text, text + text} {
			noStore(t, part)
		}
	}
}

// TestStoresAreMadeOfTemplates adds all templates one after another, and removes them again.
func TestStoresAreMadeOfTemplates(t *testing.T) {
	s := source(284)
	for _, want := range manyStores(&s) {
		made := store(want.Band)
		for _, m := range want.Templates {
			made, _ = impl.AddTemplate(made, m)
		}
		is(t, "made", made, want)
		for at := len(want.Templates) - 1; at >= 0; at-- {
			var code int64
			made, code = impl.RemoveTemplate(made, int64(at))
			is(t, "from the end on", all(made, code), all(store(want.Band, want.Templates[:at]...), impl.OK))
		}
		made = want
		for at := range want.Templates {
			made, _ = impl.RemoveTemplate(made, 0)
			is(t, "from the beginning on", made, store(want.Band, want.Templates[at+1:]...))
		}
	}
}

// TestNearestAreInOrder is for promise 11.
func TestNearestAreInOrder(t *testing.T) {
	s := source(285)
	for range 150 {
		length := 1 + s.below(20)
		some := []func(*source, int64) []impl.Feat{closeFeats, randomFeats, driftingFeats}[s.below(3)]
		made, a := randomStore(&s, length, impl.MaxTemplates, "abcd", some), some(&s, length)
		matches, _ := impl.MatchesOf(made, a)
		every, code := impl.Nearest(made, a, impl.MaxTemplates)
		is(t, "all of them", all(len(every), code), all(len(matches), impl.OK))
		for at, m := range every {
			is(t, "each is a match", slices.Contains(matches, m), true)
			if at > 0 {
				before := every[at-1]
				is(t, "in order", before.Cost < m.Cost || before.Cost == m.Cost && before.Index < m.Index, true)
			}
		}
		for k := range int64(impl.MaxTemplates) {
			is(t, "the first ones", all(impl.Nearest(made, a, k+1)), all(every[:min(k+1, int64(len(every)))], impl.OK))
		}
	}
}

// TestNearestAndVotesAgree compares the nearest template with the vote of one, and with the search of chapter 10.
func TestNearestAndVotesAgree(t *testing.T) {
	s := source(286)
	for range 150 {
		length := 1 + s.below(20)
		made, a := randomStore(&s, length, impl.MaxTemplates, "abcd", closeFeats), closeFeats(&s, length)
		var lists [][]impl.Feat
		for _, m := range made.Templates {
			lists = append(lists, m.Feats)
		}
		index, cost, code := impl.NearestOf(a, lists, made.Band)
		label, voteCode := impl.Vote(made, a, 1)
		is(t, "as the search", voteCode, code)
		if code != impl.OK {
			continue
		}
		is(t, "the nearest", all(impl.Nearest(made, a, 1)), all(hits(index, cost), impl.OK))
		is(t, "its label", label, made.Templates[index].Label)
		labels, _ := impl.LabelsOf(made)
		for k := int64(1); k <= impl.MaxTemplates; k++ {
			label, voteCode = impl.Vote(made, a, k)
			is(t, "a label of the store", all(slices.Contains(labels, label), voteCode), all(true, impl.OK))
		}
	}
}
