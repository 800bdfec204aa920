package tests

import (
	"slices"
	"strconv"
	"testing"

	"loop.example/g00918/impl"
)

func TestElasticPath(t *testing.T) {
	for name, c := range map[string]struct {
		a, b []impl.Feat
		band int64
		want []impl.Pair
	}{
		"one and one":                    {feats(0, 0, 0), feats(3, 4, 7), 0, pairs(0, 0)},
		"one and three":                  {line(5), line(1, 5, 9), 2, pairs(0, 0, 0, 1, 0, 2)},
		"three and one":                  {line(1, 5, 9), line(5), 2, pairs(0, 0, 1, 0, 2, 0)},
		"one more":                       {line(0, 10), line(0, 5, 10), 1, pairs(0, 0, 0, 1, 1, 2)},
		"one less":                       {line(0, 5, 10), line(0, 10), 1, pairs(0, 0, 1, 0, 2, 1)},
		"nearer to the last one":         {line(0, 10), line(0, 6, 10), 1, pairs(0, 0, 1, 1, 1, 2)},
		"the diagonal":                   {line(0, 10, 20), line(1, 9, 22), 3, pairs(0, 0, 1, 1, 2, 2)},
		"around a corner of a":           {line(0, 0, 9), line(0, 9, 9), 1, pairs(0, 0, 1, 0, 2, 1, 2, 2)},
		"around a corner of b":           {line(0, 9, 9), line(0, 0, 9), 1, pairs(0, 0, 0, 1, 1, 2, 2, 2)},
		"no corner within the band":      {line(0, 0, 9), line(0, 9, 9), 0, pairs(0, 0, 1, 1, 2, 2)},
		"a band between":                 {line(0, 0, 0, 9), line(0, 9, 9, 9), 1, pairs(0, 0, 1, 0, 2, 1, 3, 2, 3, 3)},
		"a band that is enough":          {line(0, 0, 0, 9), line(0, 9, 9, 9), 2, pairs(0, 0, 1, 0, 2, 0, 3, 1, 3, 2, 3, 3)},
		"equal ones":                     {line(4, 4), line(4, 4), 2, pairs(0, 0, 1, 1)},
		"equal ones, b is longer":        {line(4, 4), line(4, 4, 4), 2, pairs(0, 0, 0, 1, 1, 2)},
		"equal ones, a is longer":        {line(4, 4, 4), line(4, 4), 2, pairs(0, 0, 1, 0, 2, 1)},
		"equal ones, 3 and 5":            {line(4, 4, 4), line(4, 4, 4, 4, 4), 4, pairs(0, 0, 0, 1, 0, 2, 1, 3, 2, 4)},
		"equal ones, 5 and 3":            {line(4, 4, 4, 4, 4), line(4, 4, 4), 4, pairs(0, 0, 1, 0, 2, 0, 3, 1, 4, 2)},
		"equal ones, the least band":     {line(4, 4, 4, 4, 4), line(4, 4, 4), 2, pairs(0, 0, 1, 0, 2, 0, 3, 1, 4, 2)},
		"equal ones, but the last":       {line(4, 4, 4, 9), line(4, 4, 9, 9), 3, pairs(0, 0, 1, 0, 2, 1, 3, 2, 3, 3)},
		"equal ones, but the first":      {line(9, 9, 4, 4), line(9, 4, 4, 4), 3, pairs(0, 0, 1, 0, 2, 1, 2, 2, 3, 3)},
		"I - 1 before J - 1":             {line(5, 0, 5), line(0, 5, 0), 1, pairs(0, 0, 0, 1, 1, 2, 2, 2)},
		"I - 1 before J - 1, else":       {line(0, 5, 0), line(5, 0, 5), 2, pairs(0, 0, 0, 1, 1, 2, 2, 2)},
		"the diagonal before I - 1":      {line(0, 3, 3), line(0, 3, 3), 2, pairs(0, 0, 1, 1, 2, 2)},
		"the diagonal, though equal":     {line(0, 1, 0), line(0, 0, 0), 2, pairs(0, 0, 1, 1, 2, 2)},
		"I - 1 is not barred":            {line(0, 2, 0), line(2, 0, 2, 0), 2, pairs(0, 0, 0, 1, 1, 2, 2, 3)},
		"both ways, with room":           {line(1, 0, 2, 0), line(1, 2, 0, 2, 0), 2, pairs(0, 0, 0, 1, 1, 2, 2, 3, 3, 4)},
		"by directions":                  {feats(0, 0, 0, 0, 0, 4), feats(0, 0, 7, 0, 0, 1, 0, 0, 5), 1, pairs(0, 0, 0, 1, 1, 2)},
		"by directions, against a turn":  {feats(0, 0, 0, 0, 0, 4), feats(0, 0, 7, 0, 0, 3, 0, 0, 5), 1, pairs(0, 0, 1, 1, 1, 2)},
		"by Y":                           {feats(0, 0, 0, 0, 9, 0), feats(0, 0, 0, 0, 4, 0, 0, 9, 0), 1, pairs(0, 0, 0, 1, 1, 2)},
		"in the middle, to the later":    {line(0, 10), line(0, 5, 10), 2, pairs(0, 0, 0, 1, 1, 2)},
		"several in the middle, the end": {line(0, 10), line(0, 5, 5, 5, 10), 3, pairs(0, 0, 0, 1, 0, 2, 0, 3, 1, 4)},
	} {
		is(t, name, all(impl.ElasticPath(c.a, c.b, c.band)), all(c.want, impl.OK))
	}
}

// TestPathsWithABarredPair has ends where {I - 1, J} is as good as {I, J - 1}, and is preferred unless the band bars it.
func TestPathsWithABarredPair(t *testing.T) {
	for _, c := range []struct {
		a, b    []impl.Feat
		without []impl.Pair
		cost    int64
	}{
		{line(3, 1, 3), line(3, 2, 3, 1), pairs(0, 0, 1, 1, 2, 2, 2, 3), 3},
		{line(0, 3, 1), line(0, 1, 0, 1), pairs(0, 0, 1, 1, 2, 2, 2, 3), 3},
		{line(3, 2, 3), line(2, 3, 3, 2), pairs(0, 0, 1, 0, 2, 1, 2, 2, 2, 3), 2},
	} {
		is(t, "with room", all(impl.ElasticPath(c.a, c.b, 2)), all(pairs(0, 0, 0, 1, 0, 2, 1, 3, 2, 3), impl.OK))
		is(t, "barred", all(impl.ElasticPath(c.a, c.b, 1)), all(c.without, impl.OK))
		for band := int64(1); band <= 2; band++ {
			is(t, "equally good", all(impl.Elastic(c.a, c.b, band)), all(c.cost, impl.OK))
			// With the lists exchanged, the other one of both is preferred.
			path, _ := impl.ElasticPath(c.b, c.a, band)
			is(t, "exchanged", path[len(path)-2], match(2, 2))
		}
	}
}

// TestPathsOfEqualFeatures has lists for which all paths cost 0.
func TestPathsOfEqualFeatures(t *testing.T) {
	for n := int64(1); n <= 12; n++ {
		for m := int64(1); m <= 12; m++ {
			var want []impl.Pair
			for i, j := n-1, m-1; i >= 0 && j >= 0; {
				want = append(want, match(i, j))
				switch {
				case i > 0 && j > 0:
					i, j = i-1, j-1
				case i > 0:
					i--
				default:
					j--
				}
			}
			slices.Reverse(want)
			for _, band := range row(gap(n, m), gap(n, m)+1, impl.MaxSeq) {
				is(t, "equal features", all(impl.ElasticPath(slices.Repeat(feats(7, 8, 3), int(n)), slices.Repeat(feats(7, 8, 3), int(m)), band)), all(want, impl.OK))
			}
		}
	}
}

// TestEachPairBeforeIsPreferred compares the least costs of the beginnings of lists, for lists of all lengths.
func TestEachPairBeforeIsPreferred(t *testing.T) {
	s := source(156)
	for _, p := range longSeqs(&s, 6) {
		for _, band := range []int64{p.difference(), min(p.difference()+2, impl.MaxSeq), impl.MaxSeq} {
			path, _ := impl.ElasticPath(p.a, p.b, band)
			is(t, "a path within the band", impl.ValidPath(path, int64(len(p.a)), int64(len(p.b)), band), true)
			for at := 1; at < len(path); at++ {
				is(t, "the pair before", path[at-1], preferredBefore(p, path[at], band))
			}
		}
	}
}

// preferredBefore returns the pair that the document wants before another one: the first one of those with the least cost.
func preferredBefore(p seqPair, end impl.Pair, band int64) impl.Pair {
	best, least := impl.Pair{}, int64(-1)
	for _, q := range pairs(end.I-1, end.J-1, end.I-1, end.J, end.I, end.J-1) {
		if q.I < 0 || q.J < 0 || !isNear(q, band) {
			continue
		}
		if cost, _ := impl.Elastic(p.a[:q.I+1], p.b[:q.J+1], band); least < 0 || cost < least {
			best, least = q, cost
		}
	}
	return best
}

func TestValidPath(t *testing.T) {
	path := pairs(0, 0, 0, 1, 1, 2, 2, 3)
	is(t, "a path", impl.ValidPath(path, 3, 4, 1), true)
	is(t, "the shortest path", impl.ValidPath(pairs(0, 0), 1, 1, 0), true)
	is(t, "in I only", impl.ValidPath(pairs(0, 0, 1, 0, 2, 0), 3, 1, 2), true)
	is(t, "in J only", impl.ValidPath(pairs(0, 0, 0, 1, 0, 2), 1, 3, 2), true)
	is(t, "along two sides", impl.ValidPath(pairs(0, 0, 1, 0, 2, 0, 2, 1, 2, 2, 2, 3), 3, 4, 2), true)
	is(t, "along the other sides", impl.ValidPath(pairs(0, 0, 0, 1, 0, 2, 0, 3, 1, 3, 2, 3), 3, 4, 3), true)
	for _, n := range append(extremes(), -1, 0, 1, 2, 4, 5) {
		is(t, "other lengths than "+strconv.FormatInt(n, 10), all(impl.ValidPath(path, n, 4, 72), impl.ValidPath(path, n, n, 72)), all(false, false))
		is(t, "of no elements", all(impl.ValidPath(nil, n, n, 72), impl.ValidPath(pairs(0, 0), n, n, 72)), all(false, n == 1))
	}
	for _, m := range append(extremes(), -1, 0, 1, 2, 3, 5) {
		is(t, "other lengths than "+strconv.FormatInt(m, 10), impl.ValidPath(path, 3, m, 72), false)
	}
	for _, n := range extremes() {
		is(t, "ends at "+strconv.FormatInt(n, 10), all(impl.ValidPath(pairs(0, 0, n, n), n+1, n+1, 72), impl.ValidPath(pairs(n, n), n+1, n+1, 72)), all(false, false))
		is(t, "lengths below "+strconv.FormatInt(n, 10), all(impl.ValidPath(pairs(0, 0, n-1, n-1), n, n, 72), impl.ValidPath(pairs(0, 0, n-1, 0), n, 1, greatestInt)), all(false, false))
		is(t, "from "+strconv.FormatInt(n, 10), impl.ValidPath(pairs(n, n, n+1, n+1), n+2, n+2, 72), false)
	}
	for name, broken := range brokenPaths() {
		for _, band := range []int64{0, 3, 72, greatestInt} {
			is(t, name, impl.ValidPath(broken, 3, 4, band), false)
		}
	}
}

func TestValidPathWithinBands(t *testing.T) {
	for name, c := range map[string]struct {
		path     []impl.Pair
		n, m     int64
		furthest int64
	}{
		"one pair":                {pairs(0, 0), 1, 1, 0},
		"the diagonal":            {pairs(0, 0, 1, 1, 2, 2), 3, 3, 0},
		"one to the side, I":      {pairs(0, 0, 1, 0, 2, 1, 2, 2), 3, 3, 1},
		"one to the side, J":      {pairs(0, 0, 0, 1, 1, 2, 2, 2), 3, 3, 1},
		"both sides":              {pairs(0, 0, 1, 0, 1, 1, 1, 2, 2, 2), 3, 3, 1},
		"the first step":          {pairs(0, 0, 1, 0, 1, 1), 2, 2, 1},
		"the last step":           {pairs(0, 0, 1, 1, 1, 2, 1, 3), 2, 4, 2},
		"two to the side at last": {pairs(0, 0, 1, 0, 2, 0), 3, 1, 2},
		"in the middle":           {pairs(0, 0, 0, 1, 0, 2, 0, 3, 1, 3, 2, 3), 3, 4, 3},
		"in the middle, I":        {pairs(0, 0, 1, 0, 2, 0, 3, 0, 3, 1, 3, 2), 4, 3, 3},
		"72 elements":             {column(72), 72, 1, 71},
		"many elements":           {column(400), 400, 1, 399},
	} {
		for band := int64(-3); band <= c.furthest+3; band++ {
			is(t, name+", band "+strconv.FormatInt(band, 10), impl.ValidPath(c.path, c.n, c.m, band), band >= c.furthest)
			is(t, name+", exchanged", impl.ValidPath(exchanged(c.path), c.m, c.n, band), band >= c.furthest)
		}
		for _, band := range extremes() {
			is(t, name+", band "+strconv.FormatInt(band, 10), impl.ValidPath(c.path, c.n, c.m, band), band > 0)
		}
	}
}

// TestValidPathByAllPaths has all lists of few pairs: those are paths that are found by walking.
func TestValidPathByAllPaths(t *testing.T) {
	for n := int64(1); n <= 3; n++ {
		for m := int64(1); m <= 3; m++ {
			for band := range int64(4) {
				paths := pathsFor(n, m, band)
				for _, list := range listsOfPairs(4) {
					found := slices.ContainsFunc(paths, func(path []impl.Pair) bool { return slices.Equal(path, list) })
					if impl.ValidPath(list, n, m, band) != found {
						t.Errorf("%v for %d and %d elements within %d: got %v", list, n, m, band, !found)
					}
				}
			}
		}
	}
}

// listsOfPairs returns all lists of at most so many pairs from {0 0} to {2 2}, but only those that begin near {0 0}.
func listsOfPairs(most int) [][]impl.Pair {
	lists := [][]impl.Pair{{}}
	for at := 0; at < len(lists); at++ {
		if len(lists[at]) == most {
			continue
		}
		for i := range int64(3) {
			for j := range int64(3) {
				if len(lists[at]) > 0 || i+j < 2 {
					lists = append(lists, append(slices.Clone(lists[at]), match(i, j)))
				}
			}
		}
	}
	return lists
}

func TestPathCost(t *testing.T) {
	most := func(f impl.Feat) []impl.Feat { return slices.Repeat([]impl.Feat{f}, impl.MaxSeq) }
	var sides []impl.Pair
	sides = append(sides, column(72)...)
	for j := int64(1); j < 72; j++ {
		sides = append(sides, match(71, j))
	}
	for name, c := range map[string]struct {
		a, b []impl.Feat
		path []impl.Pair
		want int64
	}{
		"the example":          {feats(0, 0, 0), feats(3, 4, 7), pairs(0, 0), 23},
		"one and three":        {line(5), line(1, 5, 9), pairs(0, 0, 0, 1, 0, 2), 8},
		"three and one":        {line(1, 5, 9), line(5), pairs(0, 0, 1, 0, 2, 0), 8},
		"the best path":        {line(0, 10), line(0, 5, 10), pairs(0, 0, 0, 1, 1, 2), 5},
		"another path":         {line(0, 10), line(0, 6, 10), pairs(0, 0, 0, 1, 1, 2), 6},
		"a long path":          {line(0, 10), line(0, 5, 10), pairs(0, 0, 1, 0, 1, 1, 1, 2), 15},
		"the first one counts": {line(3, 0), line(0, 0), pairs(0, 0, 1, 1), 3},
		"the last one counts":  {line(0, 3), line(0, 0), pairs(0, 0, 1, 1), 3},
		"by directions":        {feats(0, 0, 7, 0, 0, 2), feats(0, 0, 1, 0, 0, 6), pairs(0, 0, 1, 1), 32 + 64},
		"the longest path":     {most(feat(0, 0, 0)), most(feat(255, 255, 4)), sides, 143 * 574},
		"beyond every band":    {most(feat(0, 0, 0)), feats(255, 255, 4), column(72), 72 * 574},
	} {
		is(t, name, all(impl.PathCost(c.a, c.b, c.path)), all(c.want, impl.OK))
		is(t, name+", exchanged", all(impl.PathCost(c.b, c.a, exchanged(c.path))), all(c.want, impl.OK))
	}
	s := source(157)
	for _, p := range append(longSeqs(&s, 20), smallSeqs(&s, 100, 9)...) {
		path := randomMatches(&s, int64(len(p.a)), int64(len(p.b)))
		is(t, "any path", all(impl.PathCost(p.a, p.b, path)), all(costAlong(p.a, p.b, path), impl.OK))
	}
}

// TestPathsForOtherLists is for the errors of PathCost and BlendFeats.
func TestPathsForOtherLists(t *testing.T) {
	calls := func(a, b []impl.Feat, path []impl.Pair) []any {
		cost, costCode := impl.PathCost(a, b, path)
		list, listCode := impl.BlendFeats(a, b, path)
		return all(cost, costCode, list, listCode)
	}
	refusal := func(code int64) []any { return all(0, code, []impl.Feat{}, code) }
	a, b := line(1, 2, 3), line(4, 5, 6, 7)
	good := pairs(0, 0, 0, 1, 1, 2, 2, 3)
	is(t, "a path", calls(a, b, good), all(3+4+4+4, impl.OK, feats(3, 0, 0, 4, 0, 0, 5, 0, 0), impl.OK))
	for name, broken := range brokenPaths() {
		is(t, name, calls(a, b, broken), refusal(impl.ErrRange))
	}
	for name, lists := range map[string]seqPair{
		"exchanged lists": {b, a}, "a is shorter": {a[:2], b}, "a is longer": {line(1, 2, 3, 4), b}, "b is shorter": {a, b[:3]},
		"b is longer": {a, line(4, 5, 6, 7, 8)}, "a twice": {a, a}, "b twice": {b, b}, "one and one": {a[:1], b[:1]}, "both are longer": {b, line(4, 5, 6, 7, 8)},
	} {
		is(t, name, calls(lists.a, lists.b, good), refusal(impl.ErrRange))
	}
	for _, path := range append(inOrder(brokenPaths())[:3], nil, good, column(72), pairs(0, 0), pairs(leastInt, greatestInt)) {
		refusedSeqs(t, "with a path", func(a, b []impl.Feat) []any { return calls(a, b, path) }, refusal(impl.ErrInvalid))
	}
}

func TestReversePath(t *testing.T) {
	var diagonal []impl.Pair
	for k := range int64(impl.MaxSeq) {
		diagonal = append(diagonal, match(k, k))
	}
	for name, c := range map[string][2][]impl.Pair{
		"one pair":       {pairs(0, 0), pairs(0, 0)},
		"two pairs":      {pairs(0, 0, 1, 1), pairs(0, 0, 1, 1)},
		"in I":           {pairs(0, 0, 1, 0), pairs(0, 0, 1, 0)},
		"in J":           {pairs(0, 0, 0, 1), pairs(0, 0, 0, 1)},
		"2 and 3":        {pairs(0, 0, 0, 1, 1, 2), pairs(0, 0, 1, 1, 1, 2)},
		"3 and 4":        {pairs(0, 0, 0, 1, 1, 2, 2, 3), pairs(0, 0, 1, 1, 2, 2, 2, 3)},
		"I and then J":   {pairs(0, 0, 1, 0, 2, 0, 2, 1), pairs(0, 0, 0, 1, 1, 1, 2, 1)},
		"all steps":      {pairs(0, 0, 1, 1, 1, 2, 1, 3, 2, 3, 3, 4), pairs(0, 0, 1, 1, 2, 1, 2, 2, 2, 3, 3, 4)},
		"the most of I":  {column(72), column(72)},
		"the most of J":  {exchanged(column(72)), exchanged(column(72))},
		"the most":       {diagonal, diagonal},
		"the most, late": {append(slices.Clone(diagonal[:71]), match(70, 71), match(71, 71)), append(pairs(0, 0, 1, 0), diagonal[1:]...)},
	} {
		is(t, name, all(impl.ReversePath(c[0])), all(c[1], impl.OK))
		is(t, name+", twice", all(impl.ReversePath(c[1])), all(c[0], impl.OK))
	}
	s := source(158)
	for range 300 {
		path := randomMatches(&s, 1+s.below(impl.MaxSeq), 1+s.below(impl.MaxSeq))
		back, code := impl.ReversePath(path)
		last := path[len(path)-1]
		is(t, "as many pairs", all(code, len(back)), all(impl.OK, len(path)))
		for at, p := range path {
			is(t, "a pair", back[len(back)-1-at], match(last.I-p.I, last.J-p.J))
		}
		is(t, "twice", all(impl.ReversePath(back)), all(path, impl.OK))
	}
}

func TestReversePathOfInvalid(t *testing.T) {
	refuse := func(name string, path []impl.Pair) {
		t.Helper()
		is(t, name, all(impl.ReversePath(path)), all([]impl.Pair{}, impl.ErrInvalid))
	}
	for name, path := range map[string][]impl.Pair{
		"nil": nil, "empty": {}, "one too many in I": column(73), "one too many in J": exchanged(column(73)), "far too many": column(5000),
		"begins at J 1": pairs(0, 1, 1, 2), "begins at I 1": pairs(1, 0, 2, 1), "begins elsewhere": pairs(1, 1, 2, 2), "one pair elsewhere": pairs(1, 1),
		"begins before": pairs(-1, -1, 0, 0), "one pair before": pairs(-1, -1), "I before": pairs(-1, 0), "J before": pairs(0, -1), "ends before": pairs(0, 0, -1, -1),
		"a pair twice": pairs(0, 0, 0, 0), "a pair twice later": pairs(0, 0, 1, 1, 1, 1), "a step of 2": pairs(0, 0, 2, 2), "a step of 2 in I": pairs(0, 0, 2, 1),
		"a step of 2 in J": pairs(0, 0, 1, 2), "backwards": pairs(0, 0, 1, 1, 0, 0), "backwards in I": pairs(0, 0, 1, 0, 0, 1), "backwards in J": pairs(0, 0, 0, 1, 1, 0),
		"in reverse order": pairs(2, 2, 1, 1, 0, 0),
	} {
		refuse(name, path)
	}
	for _, n := range extremes() {
		name := strconv.FormatInt(n, 10)
		for at, path := range [][]impl.Pair{
			pairs(n, n), pairs(n, 0), pairs(0, n), pairs(0, 0, n, n), pairs(0, 0, n, 0), pairs(0, 0, 0, n), pairs(0, 0, n, n, 1, 1), pairs(n, n, 1, 1), pairs(n, n, n+1, n+1), pairs(0, 0, 1, 1, n, -n),
		} {
			refuse("with "+name+", "+strconv.Itoa(at), path)
		}
	}
	// Of a long path, neither list may be too long, whatever the other one is.
	s := source(159)
	for range 100 {
		n, m := 60+s.below(30), 60+s.below(30)
		path := randomMatches(&s, n, m)
		back, code := impl.ReversePath(path)
		if n <= impl.MaxSeq && m <= impl.MaxSeq {
			is(t, "not too long", all(code, len(back)), all(impl.OK, len(path)))
		} else {
			is(t, "too long", all(back, code), all([]impl.Pair{}, impl.ErrInvalid))
		}
	}
	both := func(n, m int64) []impl.Pair { return randomMatches(&s, n, m) }
	is(t, "72 and 72", len(first(impl.ReversePath(both(72, 72)))) > 0, true)
	refuse("73 and 72", both(73, 72))
	refuse("72 and 73", both(72, 73))
	refuse("73 and 73", both(73, 73))
}

// first returns the first one of two results.
func first[T any](result T, _ int64) T { return result }
