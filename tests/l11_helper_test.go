package tests

import (
	"fmt"
	"slices"
	"strings"
	"testing"

	"loop.example/g00918/impl"
)

// What follows states chapter 11 in another way, without the program's functions.

// labelBytes are all labels, in ascending order.
const labelBytes = "()*+,-./0123456789=abcdefghijklmnopqrstuvwxyz"

func template(label string, list []impl.Feat) impl.Template {
	return impl.Template{Label: label, Feats: list}
}

func store(band int64, templates ...impl.Template) impl.Store {
	return impl.Store{Band: band, Templates: templates}
}

// dots returns a store with the band 0 whose templates have one feature each, which differ in X only;
// the bytes of labels are their labels.
func dots(labels string, xs ...int64) impl.Store {
	var s impl.Store
	for at, x := range xs {
		s.Templates = append(s.Templates, template(labels[at:at+1], line(x)))
	}
	return s
}

// labelled returns a store with one template for each list; the bytes of labels are their labels.
func labelled(band int64, labels string, lists ...[]impl.Feat) impl.Store {
	s := store(band)
	for at, list := range lists {
		s.Templates = append(s.Templates, template(labels[at:at+1], list))
	}
	return s
}

// hits returns a list of matches: the index and the cost of each, in turn.
func hits(numbers ...int64) []impl.Match {
	var list []impl.Match
	for at := 0; at < len(numbers); at += 2 {
		list = append(list, impl.Match{Index: numbers[at], Cost: numbers[at+1]})
	}
	return list
}

// matchesFor returns what MatchesOf has to return.
func matchesFor(s impl.Store, list []impl.Feat) []impl.Match {
	var matches []impl.Match
	for at, m := range s.Templates {
		if (seqPair{list, m.Feats}).difference() <= s.Band {
			matches = append(matches, hits(int64(at), leastOf(list, m.Feats, s.Band))...)
		}
	}
	return matches
}

// nearestFor returns what Nearest has to return: each match has its place behind those that it is not nearer than.
func nearestFor(matches []impl.Match, k int64) []impl.Match {
	ordered := make([]impl.Match, len(matches))
	for _, m := range matches {
		place := 0
		for _, other := range matches {
			if other.Cost < m.Cost || other.Cost == m.Cost && other.Index < m.Index {
				place++
			}
		}
		ordered[place] = m
	}
	return ordered[:min(k, int64(len(ordered)))]
}

// voteFor returns the label that Vote has to return for the nearest matches; the empty string if there are none.
func voteFor(s impl.Store, near []impl.Match) string {
	best, most, least := "", 0, int64(0)
	// The labels come in ascending order, so that a later one has to be better.
	for _, label := range strings.Split(labelBytes, "") {
		count, cost := 0, int64(0)
		for _, m := range near {
			if s.Templates[m.Index].Label == label {
				count, cost = count+1, cost+m.Cost
			}
		}
		if count > most || count == most && count > 0 && cost < least {
			best, most, least = label, count, cost
		}
	}
	return best
}

// wrongFor returns what WrongTemplates has to return.
func wrongFor(s impl.Store, k int64) []int64 {
	var wrong []int64
	for at, m := range s.Templates {
		others := store(s.Band)
		for k, other := range s.Templates {
			if k != at {
				others.Templates = append(others.Templates, other)
			}
		}
		if voteFor(others, nearestFor(matchesFor(others, m.Feats), k)) != m.Label {
			wrong = append(wrong, int64(at))
		}
	}
	return wrong
}

// storeTextFor returns the text of a store, valid or not.
func storeTextFor(s impl.Store) string {
	text := fmt.Sprintf("store %d\n", s.Band)
	for _, m := range s.Templates {
		text += fmt.Sprintf("template %s %s\n", m.Label, textOf(m.Feats))
	}
	return text
}

// isLabelFor reports whether IsLabel has to.
func isLabelFor(s string) bool {
	return slices.Contains(strings.Split(labelBytes, ""), s)
}

// wrongLabels are no labels.
func wrongLabels() []string {
	labels := []string{
		"", "  ", "aa", "ab", "a ", " a", "a\n", "00", "10", "++", "()", "a+", "-1", "+-*/=().,", labelBytes, strings.Repeat("a", 1000),
		"ä", "é", "ß", "ñ", "α", "я", "あ", "漢", "😀", "ａ", "１", "＋", "š", "ñ", "²", "×", "÷", "−", "٣", "\u200b", "\ufeff", "\ufffd", "a\u0301", "\u0161", "\u012b",
		"\x80", "\xff", "\xc3", "\xe1", "\xa9", "\xfe", "\xff\xff", "\xc3\x28", "\xed\xa0\x80", "\xf5\x80\x80\x80", "\xc0\x80", "\xc1\xa1", "a\xff", "\xffa", "\x00", "\x00\x00", "a\x00", "\x00a",
	}
	for b := range 256 {
		if s := string([]byte{byte(b)}); !strings.Contains(labelBytes, s) {
			labels = append(labels, s)
		}
	}
	return labels
}

// wrongTemplates are invalid, each for one reason.
func wrongTemplates() map[string]impl.Template {
	wrong := map[string]impl.Template{}
	for _, label := range wrongLabels() {
		wrong["label "+fmt.Sprintf("%q", label)] = template(label, feats(0, 0, 1, 9, 9, 1))
	}
	for name, list := range wrongSeqs() {
		wrong["features: "+name] = template("a", list)
	}
	return wrong
}

// wrongBands are out of the range of a store.
func wrongBands() []int64 { return append(extremes(), -1, -2, -72, impl.MaxSeq+1, impl.MaxSeq+2) }

// wrongCounts are out of the range of the number of the nearest templates.
func wrongCounts() []int64 {
	return append(extremes(), 0, -1, -2, -40, impl.MaxTemplates+1, impl.MaxTemplates+2)
}

// wrongStores are invalid, each for one reason.
func wrongStores() map[string]impl.Store {
	one, two := template("a", feats(0, 0, 1, 9, 9, 1)), template("b", line(3))
	most := slices.Repeat([]impl.Template{one, two}, impl.MaxTemplates/2)
	wrong := map[string]impl.Store{
		"one template too many":     store(2, append(slices.Clone(most), two)...),
		"two templates too many":    store(2, append(slices.Clone(most), one, two)...),
		"far too many templates":    store(2, slices.Repeat(most, 50)...),
		"the most zero templates":   store(2, make([]impl.Template, impl.MaxTemplates)...),
		"one zero template":         store(2, impl.Template{}),
		"no features and no labels": store(2, one, impl.Template{}, two),
	}
	for _, band := range wrongBands() {
		name := "band " + impl.Decimal(band)
		wrong[name], wrong[name+" without templates"], wrong[name+" with the most"] = store(band, one, two), store(band), store(band, most...)
	}
	for name, bad := range wrongTemplates() {
		wrong["only one: "+name], wrong["first one: "+name] = store(2, bad), store(2, bad, one, two)
		wrong["middle one: "+name], wrong["last one: "+name] = store(2, one, bad, two), store(2, one, two, bad)
		wrong["last one of the most: "+name] = store(2, append(slices.Clone(most[1:]), bad)...)
	}
	return wrong
}

// mostOfStore is a store of the greatest size.
func mostOfStore(s *source) impl.Store {
	greatest := store(impl.MaxSeq)
	for k := range impl.MaxTemplates {
		greatest.Templates = append(greatest.Templates, template(labelBytes[k:k+1], randomFeats(s, impl.MaxSeq)))
	}
	return greatest
}

// randomStore returns a valid store with templates whose lengths are near to one, so that often some of them do not take part.
func randomStore(s *source, length, most int64, labels string, some func(s *source, count int64) []impl.Feat) impl.Store {
	made := store(row(0, 1, 2, 3, s.below(impl.MaxSeq+1), impl.MaxSeq)[s.below(6)])
	for _, list := range manyLists(s, length, most, some) {
		at := s.below(int64(len(labels)))
		made.Templates = append(made.Templates, template(labels[at:at+1], list))
	}
	return made
}

// manyStores are valid stores of all sorts.
func manyStores(s *source) []impl.Store {
	stores := []impl.Store{
		{}, {Templates: []impl.Template{}}, store(impl.MaxSeq), store(1, template("a", line(5))), dots("aaaa", 1, 1, 1, 1), dots("zyx", 9, 5, 7),
		mostOfStore(s), store(2, template("a", feats(0, 0, 1, 9, 9, 1)), template("b", rising())),
	}
	for k := range labelBytes {
		stores = append(stores, dots(labelBytes[k:k+1], int64(k)))
	}
	for range 30 {
		stores = append(stores, randomStore(s, 1+s.below(6), impl.MaxTemplates, "ab", closeFeats))
		stores = append(stores, randomStore(s, 1+s.below(30), 10, labelBytes, randomFeats))
	}
	return stores
}

// refusedStores checks a function of a store with invalid ones.
func refusedStores(t *testing.T, name string, call func(s impl.Store) []any, want []any) {
	t.Helper()
	for reason, s := range wrongStores() {
		is(t, name+": "+reason, call(s), want)
	}
}
