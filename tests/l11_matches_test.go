package tests

import (
	"fmt"
	"slices"
	"testing"

	"loop.example/g00918/impl"
)

func TestMatchesOf(t *testing.T) {
	two, four := line(5, 5), line(5, 5, 5, 5)
	for name, c := range map[string]struct {
		s    impl.Store
		a    []impl.Feat
		want []impl.Match
	}{
		"one":                                {dots("a", 9), line(5), hits(0, 4)},
		"in the order of the store":          {dots("cba", 9, 5, 7), line(5), hits(0, 4, 1, 0, 2, 2)},
		"equal costs":                        {dots("abc", 7, 3, 7), line(5), hits(0, 2, 1, 2, 2, 2)},
		"with directions":                    {store(0, template("a", feats(3, 4, 7))), feats(0, 0, 0), hits(0, 23)},
		"the first one does not take part":   {labelled(1, "abc", four, two, line(6)), two, hits(1, 0, 2, 2)},
		"the middle one does not":            {labelled(1, "abc", two, four, line(6)), two, hits(0, 0, 2, 2)},
		"the last one does not":              {labelled(1, "abc", two, line(6), four), two, hits(0, 0, 1, 2)},
		"only the first one does":            {labelled(1, "abc", line(6, 7), four, four), two, hits(0, 3)},
		"only the middle one does":           {labelled(1, "abc", four, line(6, 7), four), two, hits(1, 3)},
		"only the last one does":             {labelled(1, "abc", four, four, line(6, 7)), two, hits(2, 3)},
		"none does":                          {labelled(1, "abc", four, four, four), two, nil},
		"longer by the band":                 {labelled(2, "ab", four, two), two, hits(0, 0, 1, 0)},
		"longer by one more":                 {labelled(1, "ab", four, two), two, hits(1, 0)},
		"shorter by the band":                {labelled(2, "ab", two, four), four, hits(0, 0, 1, 0)},
		"shorter by one more":                {labelled(1, "ab", two, four), four, hits(1, 0)},
		"shorter, longer and neither":        {labelled(0, "abc", line(5), line(5, 5, 5), two), two, hits(2, 0)},
		"within the band":                    {labelled(0, "ab", line(0, 9, 9), line(0, 1, 9)), line(0, 0, 9), hits(0, 9, 1, 1)},
		"within a wider band":                {labelled(1, "ab", line(0, 9, 9), line(0, 1, 9)), line(0, 0, 9), hits(0, 0, 1, 1)},
		"the longest and the shortest":       {labelled(71, "a", level(72, feat(5, 0, 0))), line(6), hits(0, 72)},
		"the longest and the shortest apart": {labelled(70, "a", level(72, feat(5, 0, 0))), line(6), nil},
		"the greatest band":                  {labelled(72, "a", level(72, feat(5, 0, 0))), line(6), hits(0, 72)},
		"the greatest cost":                  {labelled(0, "a", level(72, feat(255, 255, 4))), level(72, feat(0, 0, 0)), hits(0, 72*574)},
		"no templates":                       {store(72), line(6), nil},
		"the same template twice":            {labelled(0, "aa", two, two), two, hits(0, 0, 1, 0)},
	} {
		is(t, name, all(impl.MatchesOf(c.s, c.a)), all(c.want, impl.OK))
	}
}

// TestMatchesByElastic compares matches with Elastic for each template.
func TestMatchesByElastic(t *testing.T) {
	s := source(250)
	for _, right := range manyStores(&s) {
		for _, a := range [][]impl.Feat{line(5), closeFeats(&s, 1+s.below(6)), randomFeats(&s, 1+s.below(30)), rising()} {
			var want []impl.Match
			for at, m := range right.Templates {
				if cost, code := impl.Elastic(a, m.Feats, right.Band); code == impl.OK {
					want = append(want, hits(int64(at), cost)...)
				} else {
					is(t, "does not take part", code, impl.ErrRange)
				}
			}
			is(t, "by Elastic", all(impl.MatchesOf(right, a)), all(want, impl.OK))
		}
	}
}

func TestNearest(t *testing.T) {
	far := line(5, 5)
	for name, c := range map[string]struct {
		s    impl.Store
		k    int64
		want []impl.Match
	}{
		"the nearest one":                    {dots("abc", 9, 6, 7), 1, hits(1, 1)},
		"the first one":                      {dots("abc", 6, 9, 7), 1, hits(0, 1)},
		"the last one":                       {dots("abc", 9, 7, 6), 1, hits(2, 1)},
		"two":                                {dots("abc", 9, 6, 7), 2, hits(1, 1, 2, 2)},
		"all":                                {dots("abc", 9, 6, 7), 3, hits(1, 1, 2, 2, 0, 4)},
		"one more than there are":            {dots("abc", 9, 6, 7), 4, hits(1, 1, 2, 2, 0, 4)},
		"as many as there may be":            {dots("abc", 9, 6, 7), 40, hits(1, 1, 2, 2, 0, 4)},
		"in order":                           {dots("abcd", 5, 6, 7, 8), 40, hits(0, 0, 1, 1, 2, 2, 3, 3)},
		"in reverse order":                   {dots("abcd", 8, 7, 6, 5), 40, hits(3, 0, 2, 1, 1, 2, 0, 3)},
		"the first one of equal costs":       {dots("cba", 7, 3, 7), 1, hits(0, 2)},
		"the first two of equal costs":       {dots("cba", 7, 3, 7), 2, hits(0, 2, 1, 2)},
		"three of equal costs":               {dots("cba", 7, 3, 7), 3, hits(0, 2, 1, 2, 2, 2)},
		"equal costs behind a lesser one":    {dots("dcba", 7, 3, 7, 6), 2, hits(3, 1, 0, 2)},
		"equal costs in front of a greater":  {dots("dcba", 9, 7, 3, 7), 4, hits(1, 2, 2, 2, 3, 2, 0, 4)},
		"two costs in turn":                  {dots("abcabc", 6, 7, 4, 3, 6, 7), 5, hits(0, 1, 2, 1, 4, 1, 1, 2, 3, 2)},
		"two costs in turn, the greater one": {dots("abcabc", 7, 6, 3, 4, 7, 6), 4, hits(1, 1, 3, 1, 5, 1, 0, 2)},
		"equal templates":                    {dots("aaaaa", 5, 5, 5, 5, 5), 3, hits(0, 0, 1, 0, 2, 0)},
		"the first one does not take part":   {labelled(0, "abc", far, line(9), line(6)), 2, hits(2, 1, 1, 4)},
		"the middle one does not":            {labelled(0, "abc", line(9), far, line(6)), 2, hits(2, 1, 0, 4)},
		"the last one does not":              {labelled(0, "abc", line(9), line(6), far), 2, hits(1, 1, 0, 4)},
		"one of three takes part":            {labelled(0, "abc", far, far, line(6)), 2, hits(2, 1)},
		"none takes part":                    {labelled(0, "abc", far, far, far), 2, nil},
		"no templates":                       {store(3), 1, nil},
		"no templates, the most":             {store(3), 40, nil},
	} {
		is(t, name, all(impl.Nearest(c.s, line(5), c.k)), all(c.want, impl.OK))
	}
}

// TestNearestOfTheMost has as many templates as there may be.
func TestNearestOfTheMost(t *testing.T) {
	up, down := dots(labelBytes, make([]int64, 40)...), dots(labelBytes, make([]int64, 40)...)
	same, turned := hits(), hits()
	for k := range int64(40) {
		up.Templates[k].Feats[0].X, down.Templates[k].Feats[0].X = 100+k, 139-k
		same, turned = append(same, hits(k, k)...), append(turned, hits(39-k, k)...)
	}
	level := dots(labelBytes, slices.Repeat(row(7), 40)...)
	for k := int64(1); k <= 40; k++ {
		is(t, "up", all(impl.Nearest(up, line(100), k)), all(same[:k], impl.OK))
		is(t, "down", all(impl.Nearest(down, line(100), k)), all(turned[:k], impl.OK))
		want := hits()
		for at := range k {
			want = append(want, hits(at, 93)...)
		}
		is(t, "equal costs", all(impl.Nearest(level, line(100), k)), all(want, impl.OK))
	}
}

// checkNearest compares Nearest and Vote with sorting all matches, for every k up to one more than there are.
func checkNearest(t *testing.T, s impl.Store, a []impl.Feat) {
	t.Helper()
	matches := matchesFor(s, a)
	is(t, "matches", all(impl.MatchesOf(s, a)), all(matches, impl.OK))
	for k := int64(1); k <= min(int64(len(matches))+1, impl.MaxTemplates); k++ {
		near := nearestFor(matches, k)
		is(t, "the nearest", all(impl.Nearest(s, a, k)), all(near, impl.OK))
		want := all(voteFor(s, near), impl.OK)
		if len(matches) == 0 {
			want = all("", impl.ErrNotFound)
		}
		is(t, "the vote", all(impl.Vote(s, a, k)), want)
	}
}

func TestNearestOfEqualCosts(t *testing.T) {
	s := source(251)
	equal := 0
	for range 250 {
		made := store(0)
		for range s.below(impl.MaxTemplates + 1) {
			at := s.below(3)
			made.Templates = append(made.Templates, template("cab"[at:at+1], line(s.below(5))))
		}
		a := line(s.below(5))
		checkNearest(t, made, a)
		matches := matchesFor(made, a)
		costs := map[int64]bool{}
		for _, m := range matches {
			costs[m.Cost] = true
		}
		equal += len(matches) - len(costs)
	}
	is(t, "many costs are equal", equal > 3000, true)
}

// TestNearestOfSmallStores has all stores of up to 4 templates of six sorts, with two labels and three costs.
func TestNearestOfSmallStores(t *testing.T) {
	sorts := dots("ababba", 5, 5, 6, 6, 4, 8).Templates
	stores := []impl.Store{{}}
	for at := 0; len(stores[at].Templates) < 4; at++ {
		for _, m := range sorts {
			stores = append(stores, store(0, append(slices.Clone(stores[at].Templates), m)...))
		}
	}
	is(t, "all of them", len(stores), 1+6+36+216+1296)
	for _, made := range stores {
		checkNearest(t, made, line(5))
	}
}

func TestNearestOfManyStores(t *testing.T) {
	s := source(252)
	for range 60 {
		length := 1 + s.below(6)
		for _, some := range []func(*source, int64) []impl.Feat{closeFeats, randomFeats, driftingFeats} {
			checkNearest(t, randomStore(&s, length, impl.MaxTemplates, "dcba", some), some(&s, length))
		}
	}
	for _, length := range row(1, 30, 70, 72) {
		checkNearest(t, randomStore(&s, length, impl.MaxTemplates, labelBytes, driftingFeats), driftingFeats(&s, length))
	}
	checkNearest(t, mostOfStore(&s), randomFeats(&s, impl.MaxSeq))
}

// searchStore are the calls of chapter 11 with a sequence.
func searchStore(s impl.Store, a []impl.Feat, k int64) []any {
	return all(all(impl.MatchesOf(s, a)), all(impl.Nearest(s, a, k)), all(impl.Vote(s, a, k)))
}

func TestBandsOfStores(t *testing.T) {
	s := source(253)
	lists := [][]impl.Feat{line(5), line(5, 6), rising(), level(71, feat(5, 5, 5)), closeFeats(&s, 36)}
	for band := range int64(impl.MaxSeq + 1) {
		made := labelled(band, "abcde", lists...)
		for _, a := range lists {
			taking := 0
			for _, list := range lists {
				if (seqPair{a, list}).difference() <= band {
					taking++
				}
			}
			matches, code := impl.MatchesOf(made, a)
			is(t, "as many as take part", all(len(matches), code), all(taking, impl.OK))
			near, code := impl.Nearest(made, a, 40)
			is(t, "and the nearest", all(len(near), code), all(taking, impl.OK))
		}
	}
	for _, list := range lists {
		checkNearest(t, labelled(impl.MaxSeq, "abcde", lists...), list)
	}
}

func TestCountsOfNearest(t *testing.T) {
	s := source(254)
	for _, made := range []impl.Store{store(0), dots("a", 5), plainStore(), mostOfStore(&s), labelled(0, "a", line(5, 5, 5))} {
		matches, code := impl.MatchesOf(made, line(5))
		is(t, "matches know no k", code, impl.OK)
		for _, k := range wrongCounts() {
			want := all(all(matches, impl.OK), all(hits(), impl.ErrRange), all("", impl.ErrRange))
			is(t, "k "+impl.Decimal(k), searchStore(made, line(5), k), want)
			is(t, "wrong ones, k "+impl.Decimal(k), all(impl.WrongTemplates(made, k)), all(row(), impl.ErrRange))
		}
		for k := int64(1); k <= impl.MaxTemplates; k++ {
			_, code := impl.Nearest(made, line(5), k)
			_, wrongCode := impl.WrongTemplates(labelled(0, "ab", line(5), line(5)), k)
			is(t, "k "+impl.Decimal(k), all(code, wrongCode), all(impl.OK, impl.OK))
		}
	}
}

func TestSearchesOfInvalidStores(t *testing.T) {
	want := all(all(hits(), impl.ErrInvalid), all(hits(), impl.ErrInvalid), all("", impl.ErrInvalid))
	for _, k := range append(wrongCounts(), 1, 3, 40) {
		refusedStores(t, "a search", func(s impl.Store) []any { return searchStore(s, line(5), k) }, want)
		refusedStores(t, "WrongTemplates", func(s impl.Store) []any { return all(impl.WrongTemplates(s, k)) }, all(row(), impl.ErrInvalid))
		for reason, list := range wrongSeqs() {
			is(t, "features: "+reason, searchStore(plainStore(), list, k), want)
			is(t, "features, without templates: "+reason, searchStore(store(3), list, k), want)
			is(t, "features, and another length: "+reason, searchStore(labelled(0, "a", rising()), list, k), want)
			is(t, "features and the store: "+reason, searchStore(store(3, template("a", list)), list, k), want)
		}
	}
}

func TestLengthsOfSequences(t *testing.T) {
	for count := range impl.MaxSeq + 4 {
		a := level(count, feat(5, 6, 7))
		want := all(all(hits(), impl.ErrInvalid), all(hits(), impl.ErrInvalid), all("", impl.ErrInvalid))
		if count >= 1 && count <= 72 {
			want = all(all(hits(0, 0), impl.OK), all(hits(0, 0), impl.OK), all("x", impl.OK))
		}
		is(t, fmt.Sprint(count, " features"), searchStore(store(72, template("x", feats(5, 6, 7))), a, 1), want)
	}
}
