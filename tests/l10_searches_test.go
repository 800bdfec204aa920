package tests

import (
	"slices"
	"testing"

	"loop.example/g00918/impl"
)

func TestNearestOf(t *testing.T) {
	short, long := line(5), line(5, 5, 5, 5)
	for name, c := range map[string]struct {
		a           []impl.Feat
		lists       [][]impl.Feat
		band        int64
		index, cost int64
	}{
		"the only one":                     {line(5), singles(9), 0, 0, 4},
		"the first one":                    {line(5), singles(6, 7, 8), 0, 0, 1},
		"the one in the middle":            {line(5), singles(9, 6, 8), 0, 1, 1},
		"the last one":                     {line(5), singles(9, 8, 7), 0, 2, 2},
		"the first one of several":         {line(5), singles(9, 4, 6, 4), 0, 1, 1},
		"the first one of equal ones":      {line(5), singles(7, 7, 7), 0, 0, 2},
		"equal costs and then less":        {line(5), singles(7, 7, 6), 0, 2, 1},
		"less and then equal costs":        {line(5), singles(6, 7, 7), 0, 0, 1},
		"the list itself":                  {line(5), singles(7, 5, 5), 0, 1, 0},
		"the first one does not take part": {line(5, 5), seqs(long, line(6, 6), line(5, 6)), 1, 2, 1},
		"the first one is all that does":   {line(5, 5), seqs(line(6, 9), long, long), 1, 0, 5},
		"the middle one does not":          {line(5, 5), seqs(line(6, 6), long, line(5, 6)), 1, 2, 1},
		"the last one does not":            {line(5, 5), seqs(line(6, 6), line(5, 6), long), 1, 1, 1},
		"the last one is all that does":    {line(5, 5), seqs(long, long, line(255, 255)), 1, 2, 500},
		"the middle one is all that does":  {line(5, 5), seqs(long, line(7, 7), long), 1, 1, 4},
		"a shorter one takes part":         {line(5, 5), seqs(line(6, 6), short), 1, 1, 0},
		"a shorter one does not":           {line(5, 5), seqs(line(6, 6), short), 0, 0, 2},
		"a longer one takes part":          {line(5, 5), seqs(line(6, 6), long), 2, 1, 0},
		"a longer one does not":            {line(5, 5), seqs(line(6, 6), long), 1, 0, 2},
		"by the band":                      {line(0, 0, 9), seqs(line(0, 9, 9), line(0, 1, 9)), 0, 1, 1},
		"by a wider band":                  {line(0, 0, 9), seqs(line(0, 9, 9), line(0, 1, 9)), 1, 0, 0},
		"by directions":                    {feats(5, 5, 0), seqs(feats(5, 5, 2), feats(5, 20, 0), feats(5, 5, 7)), 0, 1, 15},
		"as many as there may be":          {line(5), singles(append(slices.Repeat(row(9), 39), 6)...), 0, 39, 1},
		"a great cost":                     {level(72, feat(0, 0, 0)), seqs(level(72, feat(255, 255, 4))), 72, 0, 72 * 574},
		"the shortest and the longest":     {line(5), seqs(level(72, feat(5, 0, 0)), line(6)), 72, 0, 0},
		"the longest does not take part":   {line(5), seqs(level(72, feat(5, 0, 0)), line(6)), 70, 1, 1},
		"the longest takes part":           {line(5), seqs(level(72, feat(5, 0, 0)), line(6)), 71, 0, 0},
	} {
		is(t, name, all(impl.NearestOf(c.a, c.lists, c.band)), all(c.index, c.cost, impl.OK))
		index, cost, _, code := impl.NearestPruned(c.a, c.lists, c.band)
		is(t, name+", pruned", all(index, cost, code), all(c.index, c.cost, impl.OK))
	}
}

// TestMatchedLists tells how many lists NearestPruned matches.
func TestMatchedLists(t *testing.T) {
	// This list has the bound 3 and the cost 8 for a.
	a, near := line(0, 10), line(3, 5, 10)
	is(t, "the bound", all(impl.LowerBound(a, near, 1)), all(3, impl.OK))
	is(t, "the cost", all(impl.Elastic(a, near, 1)), all(8, impl.OK))
	far := line(0, 10, 10, 10)
	for name, c := range map[string]struct {
		a                    []impl.Feat
		lists                [][]impl.Feat
		band                 int64
		index, cost, matched int64
	}{
		"the only one":                       {a, seqs(near), 1, 0, 8, 1},
		"the bound is the least cost":        {a, seqs(line(3, 10), near), 1, 0, 3, 1},
		"the bound is just below":            {a, seqs(line(4, 10), near), 1, 0, 4, 2},
		"the bound is just above":            {a, seqs(line(2, 10), near), 1, 0, 2, 1},
		"the bound is far below":             {a, seqs(line(90, 10), near), 1, 1, 8, 2},
		"the bound is 0, the least cost 0":   {a, seqs(a, a, a), 1, 0, 0, 1},
		"the bound is 0, the least cost 1":   {a, seqs(line(1, 10), a, a), 1, 1, 0, 2},
		"the same cost, matched":             {a, seqs(near, near, near), 1, 0, 8, 3},
		"the same cost, left out":            {line(5), singles(7, 7, 3), 0, 0, 2, 1},
		"less and less":                      {line(5), singles(9, 8, 7, 6, 5), 0, 4, 0, 5},
		"more and more":                      {line(5), singles(5, 6, 7, 8, 9), 0, 0, 0, 1},
		"up and down":                        {line(5), singles(8, 9, 7, 8, 6, 7), 0, 4, 1, 3},
		"compared with the least, not last":  {a, seqs(line(4, 10), near, line(5, 10), line(7, 10)), 1, 0, 4, 2},
		"a great cost first":                 {a, seqs(line(255, 255), near, line(4, 10), line(5, 10)), 1, 2, 4, 3},
		"the greatest cost first":            {level(72, feat(0, 0, 0)), seqs(level(72, feat(255, 255, 4)), level(72, feat(254, 255, 4))), 72, 1, 72 * 573, 2},
		"the first one does not take part":   {a, seqs(far, line(3, 10), near), 1, 1, 3, 1},
		"the first ones do not take part":    {a, seqs(far, far, line(4, 10), near), 1, 2, 4, 2},
		"the middle one does not take part":  {a, seqs(line(4, 10), far, near), 1, 0, 4, 2},
		"the last one does not take part":    {a, seqs(line(4, 10), near, far), 1, 0, 4, 2},
		"only the last one takes part":       {a, seqs(far, far, near), 1, 2, 8, 1},
		"only the first one takes part":      {a, seqs(near, far, far), 1, 0, 8, 1},
		"all take part with more room":       {a, seqs(line(3, 10), near, far), 2, 2, 0, 2},
		"a great cost first that is not one": {a, seqs(far, line(255, 255), near, far), 1, 2, 8, 2},
		"as many as there may be":            {a, slices.Repeat(seqs(near), 40), 1, 0, 8, 40},
		"none of the most but one":           {line(5), slices.Repeat(singles(7), 40), 1, 0, 2, 1},
	} {
		is(t, name, all(impl.NearestPruned(c.a, c.lists, c.band)), all(c.index, c.cost, c.matched, impl.OK))
		is(t, name+", not pruned", all(impl.NearestOf(c.a, c.lists, c.band)), all(c.index, c.cost, impl.OK))
	}
}

func TestWithinCost(t *testing.T) {
	far := line(5, 5, 5)
	for name, c := range map[string]struct {
		a           []impl.Feat
		lists       [][]impl.Feat
		band, limit int64
		want        []int64
	}{
		"all":                              {line(5), singles(6, 7, 8), 0, 9, row(0, 1, 2)},
		"all, in ascending order":          {line(5), singles(8, 6, 7), 0, 9, row(0, 1, 2)},
		"a limit that is the least cost":   {line(5), singles(8, 6, 7), 0, 1, row(1)},
		"one less than the least cost":     {line(5), singles(8, 6, 7), 0, 0, nil},
		"a limit between":                  {line(5), singles(8, 6, 7), 0, 2, row(1, 2)},
		"a limit that is the greatest one": {line(5), singles(8, 6, 7), 0, 3, row(0, 1, 2)},
		"equal costs":                      {line(5), singles(7, 3, 7, 8), 0, 2, row(0, 1, 2)},
		"equal costs, one less":            {line(5), singles(7, 3, 7, 8), 0, 1, nil},
		"0":                                {line(5), singles(7, 5, 6, 5), 0, 0, row(1, 3)},
		"-1":                               {line(5), singles(7, 5, 6, 5), 0, -1, nil},
		"the least limit":                  {line(5), singles(7, 5, 6, 5), 0, leastInt, nil},
		"the greatest limit":               {line(5), singles(7, 5, 255, 5), 0, greatestInt, row(0, 1, 2, 3)},
		"the first one does not take part": {line(5), seqs(far, line(6), line(5)), 1, 9, row(1, 2)},
		"the middle one does not":          {line(5), seqs(line(6), far, line(5)), 1, 9, row(0, 2)},
		"the last one does not":            {line(5), seqs(line(6), line(5), far), 1, 9, row(0, 1)},
		"only the last one does":           {line(5), seqs(far, far, line(5)), 1, 9, row(2)},
		"only the last one, one less":      {line(5), seqs(far, far, line(6)), 1, 0, nil},
		"none takes part":                  {line(5), seqs(far, far), 1, greatestInt, nil},
		"with more room":                   {line(5), seqs(far, line(6), far), 2, 0, row(0, 2)},
		"no lists":                         {line(5), nil, 1, greatestInt, nil},
		"the greatest cost":                {level(72, feat(0, 0, 0)), seqs(level(72, feat(255, 255, 4))), 0, 72 * 574, row(0)},
		"one less than the greatest cost":  {level(72, feat(0, 0, 0)), seqs(level(72, feat(255, 255, 4))), 0, 72*574 - 1, nil},
		"the cost, not the bound":          {line(0, 10), seqs(line(3, 5, 10), line(0, 10)), 1, 7, row(1)},
		"the cost itself":                  {line(0, 10), seqs(line(3, 5, 10), line(0, 10)), 1, 8, row(0, 1)},
	} {
		is(t, name, all(impl.WithinCost(c.a, c.lists, c.band, c.limit)), all(c.want, impl.OK))
	}
}

func TestBoundOrder(t *testing.T) {
	far := line(5, 5, 5)
	for name, c := range map[string]struct {
		a     []impl.Feat
		lists [][]impl.Feat
		band  int64
		want  []int64
	}{
		"one":                              {line(5), singles(9), 0, row(0)},
		"in order":                         {line(5), singles(6, 7, 8), 0, row(0, 1, 2)},
		"in reverse order":                 {line(5), singles(8, 7, 6), 0, row(2, 1, 0)},
		"in another order":                 {line(5), singles(8, 9, 5, 7), 0, row(2, 3, 0, 1)},
		"equal bounds":                     {line(5), singles(7, 3, 7), 0, row(0, 1, 2)},
		"equal bounds in between":          {line(5), singles(7, 6, 3, 4, 9, 7), 0, row(1, 3, 0, 2, 5, 4)},
		"the list itself":                  {line(5), singles(7, 5, 6, 5), 0, row(1, 3, 2, 0)},
		"the first one does not take part": {line(5), seqs(far, line(9), line(6)), 1, row(2, 1)},
		"the middle one does not":          {line(5), seqs(line(9), far, line(6)), 1, row(2, 0)},
		"the last one does not":            {line(5), seqs(line(9), line(6), far), 1, row(1, 0)},
		"only the last one does":           {line(5), seqs(far, far, line(6)), 1, row(2)},
		"none takes part":                  {line(5), seqs(far, far), 1, nil},
		"all take part":                    {line(5), seqs(line(9), far, line(6)), 2, row(1, 2, 0)},
		"no lists":                         {line(5), nil, 1, nil},
		"the bound, not the cost":          {line(0, 10), seqs(line(1, 10), line(0, 5, 10), line(2, 10)), 1, row(1, 0, 2)},
		"the bound within the band":        {line(0, 0, 90, 0), seqs(line(0, 0, 0, 90), line(1, 0, 90, 0)), 0, row(1, 0)},
		"the ends or the outside":          {line(5, 50, 5), seqs(line(5, 9, 5), line(9, 50, 9), line(5, 49, 6)), 0, row(2, 1, 0)},
	} {
		is(t, name, all(impl.BoundOrder(c.a, c.lists, c.band)), all(c.want, impl.OK))
	}
	same := slices.Repeat(singles(7, 3), 20)
	var indices []int64
	for k := range int64(40) {
		indices = append(indices, k)
	}
	is(t, "the most with equal bounds", all(impl.BoundOrder(line(5), same, 0)), all(indices, impl.OK))
	slices.Reverse(indices)
	is(t, "the most in reverse order", all(impl.BoundOrder(line(0), singles(indices...), 0)), all(indices, impl.OK))
}

func TestNoListTakesPart(t *testing.T) {
	none := []int64{}
	want := all(all(0, 0, impl.ErrNotFound), all(0, 0, 0, impl.ErrNotFound), all(none, impl.OK), all(none, impl.OK))
	for _, band := range row(0, 1, 71, 72) {
		is(t, "no lists", searchCalls(line(5), nil, band, 9), want)
		is(t, "an empty list of lists", searchCalls(rising(), seqs(), band, greatestInt), want)
	}
	for name, c := range map[string]struct {
		a     []impl.Feat
		lists [][]impl.Feat
		band  int64
	}{
		"one more":             {line(5), seqs(line(5, 5)), 0},
		"one less":             {line(5, 5), seqs(line(5)), 0},
		"two more":             {line(5), seqs(line(5, 5, 5)), 1},
		"two less":             {line(5, 5, 5), seqs(line(5)), 1},
		"more and less":        {line(5, 5, 5), seqs(line(5), line(5, 5, 5, 5, 5), line(5)), 1},
		"the longest":          {line(5), seqs(rising()), 70},
		"the shortest":         {rising(), seqs(line(5)), 70},
		"as many as there are": {line(5), slices.Repeat(seqs(line(5, 5, 5)), 40), 1},
	} {
		is(t, name, searchCalls(c.a, c.lists, c.band, greatestInt), want)
		code := searchCalls(c.a, c.lists, c.band+1, greatestInt)[0].([]any)[2]
		is(t, name+", with more room", code, impl.OK)
	}
}

// TestSearchesOfSmallLists compares the searches with trying all lists one after another.
func TestSearchesOfSmallLists(t *testing.T) {
	s := source(221)
	few := func(s *source, count int64) []impl.Feat { return line(randomNumbers(s, count, 3)...) }
	for range 250 {
		for _, some := range []func(*source, int64) []impl.Feat{few, closeFeats, randomFeats, driftingFeats} {
			length := 1 + s.below(6)
			checkSearches(t, &s, some(&s, length), manyLists(&s, length, 9, some), row(0, 1, 2, 3, s.below(impl.MaxSeq), impl.MaxSeq))
		}
	}
}

func TestSearchesOfLongLists(t *testing.T) {
	s := source(222)
	for _, some := range []func(*source, int64) []impl.Feat{closeFeats, randomFeats, driftingFeats} {
		for _, length := range row(1, 2, 20, 70, 72) {
			checkSearches(t, &s, some(&s, length), manyLists(&s, length, impl.MaxLists, some), row(0, 2, impl.MaxSeq))
		}
		var lists [][]impl.Feat
		for range impl.MaxLists {
			lists = append(lists, some(&s, 1+s.below(impl.MaxSeq)))
		}
		checkSearches(t, &s, some(&s, 36), lists, row(0, 10, 35, 36))
	}
}

// checkSearches checks all searches with some bands, and with limits at the costs and beside them.
func checkSearches(t *testing.T, s *source, a []impl.Feat, lists [][]impl.Feat, bands []int64) {
	t.Helper()
	for _, band := range bands {
		list := triedAmong(a, lists, band)
		limits := row(s.below(2000), -1, greatestInt, leastInt)
		if len(list) > 0 {
			cost := list[s.below(int64(len(list)))].cost
			limits = append(limits, cost, cost-1, cost+1)
		}
		for _, limit := range limits {
			is(t, "the band "+impl.Decimal(band), searchCalls(a, lists, band, limit), searchesAmong(list, limit))
		}
	}
}

func TestNumberOfLists(t *testing.T) {
	s := source(223)
	for count := range impl.MaxLists + 1 {
		lists := slices.Repeat(singles(7), count)
		is(t, "so many", searchCalls(line(5), lists, 0, 2), searchesAmong(triedAmong(line(5), lists, 0), 2))
	}
	for _, count := range []int{41, 42, 80, 1000} {
		for _, band := range append(extremes(), 0, 72, -1, 73) {
			lists := slices.Repeat(singles(7), count)
			is(t, "too many", searchCalls(line(5), lists, band, 9), refusedSearches(impl.ErrInvalid))
			is(t, "too many that do not take part", searchCalls(line(5, 5), lists, 0, 9), refusedSearches(impl.ErrInvalid))
			// Only some of them take part.
			lists = append(lists, randomFeats(&s, 72))
			is(t, "too many of all sorts", searchCalls(line(5), lists[count-40:], band, 9), refusedSearches(impl.ErrInvalid))
		}
	}
}

func TestBandsOfSearches(t *testing.T) {
	for _, band := range append(extremes(), -1, -2, -72, impl.MaxSeq+1, impl.MaxSeq+2) {
		for _, lists := range [][][]impl.Feat{nil, singles(5, 6), seqs(line(1, 2, 3)), seqs(rising(), line(5))} {
			for _, limit := range row(9, -1, greatestInt, leastInt) {
				is(t, "band "+impl.Decimal(band), searchCalls(line(5), lists, band, limit), refusedSearches(impl.ErrRange))
			}
		}
	}
	lists := seqs(line(5), line(5, 9), line(9, 5, 5), rising(), level(71, feat(5, 5, 5)))
	for band := range int64(impl.MaxSeq + 1) {
		for _, a := range seqs(line(5), line(5, 6), rising()) {
			list := triedAmong(a, lists, band)
			is(t, "band "+impl.Decimal(band), searchCalls(a, lists, band, 20), searchesAmong(list, 20))
		}
	}
}

func TestSearchesOfInvalid(t *testing.T) {
	for _, band := range row(0, 5, 72, 73, -1, leastInt, greatestInt) {
		refusedLists(t, func(a []impl.Feat, lists [][]impl.Feat) []any { return searchCalls(a, lists, band, band) }, refusedSearches(impl.ErrInvalid))
	}
}
