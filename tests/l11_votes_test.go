package tests

import (
	"slices"
	"testing"

	"loop.example/g00918/impl"
)

func TestVote(t *testing.T) {
	for name, c := range map[string]struct {
		s    impl.Store
		k    int64
		want string
	}{
		"one":                                    {dots("x", 9), 1, "x"},
		"the nearest one":                        {dots("abc", 9, 6, 7), 1, "b"},
		"the nearest one, the last":              {dots("abc", 9, 7, 6), 1, "c"},
		"the first one of equal costs":           {dots("cba", 7, 3, 7), 1, "c"},
		"the most":                               {dots("abb", 5, 9, 9), 3, "b"},
		"the most, between":                      {dots("aba", 9, 5, 9), 3, "a"},
		"the most, far away":                     {dots("abb", 5, 105, 205), 3, "b"},
		"the most, and they cost more":           {dots("aabbb", 5, 6, 90, 91, 92), 5, "b"},
		"fewer, but only these are near":         {dots("abb", 5, 9, 9), 1, "a"},
		"two of which the second does not help":  {dots("abb", 5, 9, 9), 2, "a"},
		"as many, the lesser sum":                {dots("aabb", 6, 10, 7, 8), 4, "b"},
		"as many, the lesser sum and label":      {dots("bbaa", 6, 10, 7, 8), 4, "a"},
		"as many, the lesser sum and first":      {dots("bbaa", 6, 8, 7, 9), 4, "b"},
		"as many, less by one":                   {dots("baba", 6, 9, 8, 7), 4, "b"},
		"as many, the sum and not the least":     {dots("abab", 5, 6, 9, 7), 4, "b"},
		"as many, the sum and not the greatest":  {dots("abab", 8, 5, 8, 10), 4, "b"},
		"one each, the nearest":                  {dots("cab", 6, 7, 8), 3, "c"},
		"equal sums, the lesser label":           {dots("bbaa", 6, 8, 7, 7), 4, "a"},
		"equal sums, the lesser label first":     {dots("aabb", 6, 8, 7, 7), 4, "a"},
		"equal sums of one each":                 {dots("ba", 7, 7), 2, "a"},
		"equal sums of one each, on both sides":  {dots("ba", 7, 3), 2, "a"},
		"equal sums, the first one is not there": {dots("ba", 7, 7), 1, "b"},
		"no costs":                               {dots("cab", 5, 5, 5), 3, "a"},
		"no costs, two of a label":               {dots("cabc", 5, 5, 5, 5), 4, "c"},
		"three labels, the lesser sum":           {dots("abcabc", 5, 6, 7, 10, 8, 6), 6, "c"},
		"three labels, the middle sum":           {dots("abcabc", 8, 6, 7, 10, 7, 6), 6, "b"},
		"three labels, two equal sums":           {dots("cbacba", 6, 7, 9, 8, 7, 9), 6, "b"},
		"three labels, two equal lesser sums":    {dots("cabcab", 6, 9, 7, 8, 9, 7), 6, "b"},
		"three labels, all sums equal":           {dots("cbacba", 6, 7, 5, 8, 7, 9), 6, "a"},
		"three labels, two with as many":         {dots("cbacb", 6, 7, 5, 8, 7), 5, "b"},
		"three labels, the third one is nearest": {dots("cbacba", 9, 9, 5, 9, 9, 250), 5, "b"},
		"three of one cost, of two labels":       {dots("bbaaa", 7, 7, 7, 7, 7), 3, "b"},
		"four of one cost":                       {dots("bbaaa", 7, 7, 7, 7, 7), 4, "a"},
		"five of one cost":                       {dots("bbaaa", 7, 7, 7, 7, 7), 5, "a"},
		"two of one cost":                        {dots("bbaaa", 7, 7, 7, 7, 7), 2, "b"},
		"k below the number of equal costs":      {dots("cccbba", 9, 9, 9, 7, 7, 6), 4, "b"},
		"more than there are":                    {dots("abb", 5, 9, 9), 4, "b"},
		"the greatest k":                         {dots("abb", 5, 9, 9), 40, "b"},
		"signs and letters":                      {dots("a+", 7, 7), 2, "+"},
		"signs and digits":                       {dots("0-", 7, 7), 2, "-"},
		"a sign behind the digits":               {dots("=9", 7, 7), 2, "9"},
		"a sign before the letters":              {dots("a=", 7, 7), 2, "="},
		"digits and letters":                     {dots("a0", 7, 7), 2, "0"},
		"parentheses":                            {dots(")(", 7, 7), 2, "("},
		"a full stop and a slash":                {dots("/.", 7, 7), 2, "."},
	} {
		is(t, name, all(impl.Vote(c.s, line(5), c.k)), all(c.want, impl.OK))
	}
}

func TestVoteWithoutMatches(t *testing.T) {
	none := all("", impl.ErrNotFound)
	for _, k := range row(1, 2, 39, 40) {
		is(t, "no templates", all(impl.Vote(store(72), line(5), k)), none)
		is(t, "one more", all(impl.Vote(labelled(0, "a", line(5, 5)), line(5), k)), none)
		is(t, "one less", all(impl.Vote(labelled(0, "a", line(5)), line(5, 5), k)), none)
		is(t, "beyond the band", all(impl.Vote(labelled(1, "aaa", line(5), line(5, 5, 5, 5, 5), line(7)), line(5, 5, 5), k)), none)
		is(t, "the band", all(impl.Vote(labelled(2, "aba", line(5), line(5, 5, 5, 5, 5), line(7)), line(5, 5, 5), k))[1], impl.OK)
	}
	// Those that do not take part have no vote.
	far := line(5, 5)
	is(t, "at the beginning", all(impl.Vote(labelled(0, "aab", far, far, line(90)), line(5), 3)), all("b", impl.OK))
	is(t, "in the middle", all(impl.Vote(labelled(0, "baac", line(90), far, far, line(91)), line(5), 4)), all("b", impl.OK))
	is(t, "at the end", all(impl.Vote(labelled(0, "baa", line(90), far, far), line(5), 3)), all("b", impl.OK))
}

func TestWrongTemplates(t *testing.T) {
	far := line(5, 5, 5)
	for name, c := range map[string]struct {
		s    impl.Store
		k    int64
		want []int64
	}{
		"no templates":                        {store(72), 1, nil},
		"no templates, the greatest k":        {store(0), 40, nil},
		"one":                                 {dots("a", 5), 1, row(0)},
		"one, the greatest k":                 {dots("a", 5), 40, row(0)},
		"two of one label":                    {dots("aa", 5, 200), 1, nil},
		"two of two labels":                   {dots("ab", 5, 5), 1, row(0, 1)},
		"many of one label":                   {dots("aaaaa", 5, 200, 5, 7, 9), 3, nil},
		"one label, one is alone":             {labelled(1, "aaa", line(5), far, line(5)), 1, row(1)},
		"one label, the first one is alone":   {labelled(1, "aaa", far, line(5), line(5)), 1, row(0)},
		"one label, the last one is alone":    {labelled(1, "aaa", line(5), line(5), far), 1, row(2)},
		"one label, all are alone":            {labelled(0, "aaa", line(5), line(5, 5), far), 40, row(0, 1, 2)},
		"one label, with more room":           {labelled(2, "aaa", line(5), line(5, 5), far), 40, nil},
		"two by two":                          {dots("abab", 5, 100, 6, 101), 1, nil},
		"two by two, with three":              {dots("abab", 5, 100, 6, 101), 3, row(0, 1, 2, 3)},
		"two by two, with two":                {dots("abab", 5, 100, 6, 101), 2, nil},
		"one among others":                    {dots("aabaa", 5, 6, 7, 8, 9), 1, row(2, 3)},
		"one among others, with three":        {dots("aabaa", 5, 6, 7, 8, 9), 3, row(2)},
		"a label of its own":                  {dots("aaab", 5, 6, 7, 200), 1, row(3)},
		"a label of its own first":            {dots("baaa", 5, 60, 70, 80), 2, row(0)},
		"equal ones of two labels":            {dots("abab", 5, 5, 5, 5), 1, row(0, 1, 3)},
		"equal ones of two labels, all":       {dots("abab", 5, 5, 5, 5), 3, row(0, 1, 2, 3)},
		"equal ones of two labels, two":       {dots("abab", 5, 5, 5, 5), 2, row(1, 3)},
		"the first one of equal ones":         {dots("baa", 5, 5, 5), 1, row(0, 1, 2)},
		"the last one of equal ones":          {dots("aab", 5, 5, 5), 1, row(2)},
		"by the lesser sum of two":            {dots("abba", 5, 5, 6, 6), 2, row(0, 1, 2, 3)},
		"by the nearest one":                  {dots("abba", 5, 5, 6, 6), 1, row(0, 1, 2, 3)},
		"not itself":                          {dots("abb", 5, 100, 200), 1, row(0, 1)},
		"not itself, with a k beyond":         {dots("aabb", 5, 6, 7, 200), 40, row(0, 1, 2, 3)},
		"behind one that does not take part":  {labelled(0, "baba", far, line(5), line(9), line(6)), 1, row(0, 2)},
		"as many of each as there are others": {dots("aaab", 5, 5, 5, 5), 2, row(3)},
	} {
		is(t, name, all(impl.WrongTemplates(c.s, c.k)), all(c.want, impl.OK))
	}
}

// TestWrongTemplatesOfTheMost has as many templates as there may be.
func TestWrongTemplatesOfTheMost(t *testing.T) {
	var all40 []int64
	for k := range int64(40) {
		all40 = append(all40, k)
	}
	one := dots("aaaaaaaaaaaaaaaaaaaaaaaaaaaaaaaaaaaaaaaa", slices.Repeat(row(5), 40)...)
	different := dots(labelBytes, slices.Repeat(row(5), 40)...)
	for _, k := range row(1, 2, 3, 38, 39, 40) {
		is(t, "one label", all(impl.WrongTemplates(one, k)), all(row(), impl.OK))
		is(t, "forty labels", all(impl.WrongTemplates(different, k)), all(all40, impl.OK))
	}
	// Without one of its own, each half is the lesser one; it is wrong if all others vote.
	halves := dots("aaaaaaaaaaaaaaaaaaaabbbbbbbbbbbbbbbbbbbb", append(slices.Repeat(row(5), 20), slices.Repeat(row(99), 20)...)...)
	is(t, "halves", all(impl.WrongTemplates(halves, 38)), all(row(), impl.OK))
	is(t, "halves, all", all(impl.WrongTemplates(halves, 39)), all(all40, impl.OK))
	is(t, "halves, more than all", all(impl.WrongTemplates(halves, 40)), all(all40, impl.OK))
}

// TestWrongTemplatesByVotes compares with removing each template and voting.
func TestWrongTemplatesByVotes(t *testing.T) {
	s := source(260)
	wrong, right := 0, 0
	for range 50 {
		length := 1 + s.below(5)
		for _, some := range []func(*source, int64) []impl.Feat{closeFeats, driftingFeats} {
			made, k := randomStore(&s, length, 12, "ab", some), 1+s.below(7)
			want := wrongFor(made, k)
			is(t, "one after another", all(impl.WrongTemplates(made, k)), all(want, impl.OK))
			var voted []int64
			for at, m := range made.Templates {
				others, _ := impl.RemoveTemplate(made, int64(at))
				if label, code := impl.Vote(others, m.Feats, k); code != impl.OK || label != m.Label {
					voted = append(voted, int64(at))
				}
			}
			is(t, "by votes", all(impl.WrongTemplates(made, k)), all(voted, impl.OK))
			wrong, right = wrong+len(want), right+len(made.Templates)-len(want)
		}
	}
	is(t, "some are wrong, and some are right", all(wrong > 100, right > 100), all(true, true))
}

// TestWrongTemplatesOfSmallStores has all stores of up to 4 templates of two labels and three places, or of another length.
func TestWrongTemplatesOfSmallStores(t *testing.T) {
	sorts := append(dots("abab", 5, 5, 6, 9).Templates, template("a", line(5, 5)))
	stores := []impl.Store{{}}
	for at := 0; len(stores[at].Templates) < 4; at++ {
		for _, m := range sorts {
			stores = append(stores, store(0, append(slices.Clone(stores[at].Templates), m)...))
		}
	}
	for _, made := range stores {
		for k := int64(1); k <= 4; k++ {
			is(t, "a small store", all(impl.WrongTemplates(made, k)), all(wrongFor(made, k), impl.OK))
		}
	}
}
