package tests

import (
	"slices"
	"testing"

	"loop.example/g00918/impl"
)

func TestPartElastic(t *testing.T) {
	most := slices.Repeat(line(7), impl.MaxSeq)
	for name, c := range map[string]struct {
		a, b           []impl.Feat
		cost, from, to int64
	}{
		"one and one":                     {line(5), line(7), 2, 0, 1},
		"the one in the middle":           {line(5), line(0, 5, 10), 0, 1, 2},
		"the first one":                   {line(5), line(5, 0, 10), 0, 0, 1},
		"the last one":                    {line(9), line(0, 0, 9), 0, 2, 3},
		"the first one of several":        {line(5), line(5, 5, 5), 0, 0, 1},
		"the first one that is nearest":   {line(5), line(0, 6, 4, 6), 1, 1, 2},
		"the nearer one behind":           {line(5), line(0, 7, 4, 5, 5), 0, 3, 4},
		"many and one":                    {line(5, 6, 9), line(6), 4, 0, 1},
		"equal ones for one":              {line(5, 5), line(5, 5, 5), 0, 0, 1},
		"the greatest from":               {line(3, 5), line(3, 3, 5), 0, 1, 3},
		"the greatest from, later":        {line(3, 5), line(9, 3, 3, 3, 5, 5), 0, 3, 5},
		"the least to":                    {line(3, 5), line(3, 5, 5), 0, 0, 2},
		"the least to of several":         {line(0, 10), line(10, 0, 10, 0, 10), 0, 1, 3},
		"the least to before a late from": {line(4, 4, 9), line(4, 9, 4, 9), 0, 0, 2},
		"both, not for nothing":           {line(0, 10), line(0, 1, 9, 10), 2, 1, 3},
		"a longer part":                   {line(0, 10), line(0, 0, 0, 10), 0, 2, 4},
		"a part with more than a":         {line(0, 5, 10), line(99, 0, 4, 6, 10, 99), 2, 1, 5},
		"the whole list":                  {line(1, 9, 1), line(1, 9, 1), 0, 0, 3},
		"the whole list, longer":          {line(1, 9, 1), line(1, 9, 8, 1), 1, 0, 4},
		"the whole list, shorter":         {line(1, 9, 5, 1), line(1, 9, 1), 4, 0, 3},
		"in another order":                {line(1, 2), line(2, 1), 1, 0, 1},
		"nothing is near":                 {line(0, 0, 0), line(200, 100, 150), 300, 1, 2},
		"by directions":                   {feats(0, 0, 0), feats(0, 0, 4, 0, 0, 5, 0, 0, 7, 0, 0, 2), 16, 2, 3},
		"by Y":                            {feats(0, 9, 0, 0, 90, 0), feats(0, 200, 0, 0, 8, 0, 0, 91, 0), 2, 1, 3},
		"the most, equal":                 {most, most, 0, 0, 1},
		"the most, rising":                {rising(), rising(), 0, 0, 72},
		"the most and one":                {most, line(9), 144, 0, 1},
		"one and the most":                {line(71), rising(), 0, 71, 72},
		"a part of the most":              {rising()[20:50], rising(), 0, 20, 50},
	} {
		is(t, name, all(impl.PartElastic(c.a, c.b)), all(c.cost, c.from, c.to, impl.OK))
	}
}

// rising returns the most features of a sequence, no two of which have the cost 0.
func rising() []impl.Feat {
	var xs []int64
	for k := range int64(impl.MaxSeq) {
		xs = append(xs, k)
	}
	return line(xs...)
}

// TestPartElasticByAllParts tries all paths for all parts of small lists, and all parts of longer ones.
func TestPartElasticByAllParts(t *testing.T) {
	s := source(160)
	byPaths := func(a, part []impl.Feat) int64 {
		least, _ := bestAmong(a, part, pathsFor(int64(len(a)), int64(len(part)), impl.MaxSeq))
		return least
	}
	for _, p := range smallSeqs(&s, 80, 4) {
		cost, from, to := bestPart(p.a, p.b, byPaths)
		is(t, "by all paths", all(impl.PartElastic(p.a, p.b)), all(cost, from, to, impl.OK))
	}
	byRests := func(a, part []impl.Feat) int64 { return leastOf(a, part, impl.MaxSeq) }
	for _, p := range smallSeqs(&s, 25, 14) {
		cost, from, to := bestPart(p.a, p.b, byRests)
		is(t, "by all parts", all(impl.PartElastic(p.a, p.b)), all(cost, from, to, impl.OK))
	}
}

// TestPartElasticByElastic tries all parts of lists of all lengths with Elastic.
func TestPartElasticByElastic(t *testing.T) {
	s := source(161)
	byElastic := func(a, part []impl.Feat) int64 {
		cost, _ := impl.Elastic(a, part, impl.MaxSeq)
		return cost
	}
	for _, p := range longSeqs(&s, 5) {
		cost, from, to := bestPart(p.a, p.b, byElastic)
		is(t, "by Elastic", all(impl.PartElastic(p.a, p.b)), all(cost, from, to, impl.OK))
		is(t, "the part", 0 <= from && from < to && to <= int64(len(p.b)), true)
	}
	for range 100 {
		b := randomFeats(&s, 1+s.below(impl.MaxSeq))
		to := 1 + s.below(int64(len(b)))
		from := s.below(to)
		cost, _, end, code := impl.PartElastic(b[from:to], b)
		is(t, "a part of itself", all(cost, code, end <= to), all(0, impl.OK, true))
	}
}

func TestPartElasticOfInvalid(t *testing.T) {
	refusedSeqs(t, "PartElastic", func(a, b []impl.Feat) []any { return all(impl.PartElastic(a, b)) }, all(0, 0, 0, impl.ErrInvalid))
}

func TestBlendFeats(t *testing.T) {
	for name, c := range map[string]struct {
		a, b []impl.Feat
		path []impl.Pair
		want []impl.Feat
	}{
		"one and one":               {feats(10, 20, 3), feats(20, 40, 5), pairs(0, 0), feats(15, 30, 3)},
		"equal ones":                {feats(7, 8, 5), feats(7, 8, 5), pairs(0, 0), feats(7, 8, 5)},
		"the direction of a":        {feats(7, 8, 7), feats(7, 8, 0), pairs(0, 0), feats(7, 8, 7)},
		"the first place":           {feats(0, 0, 1), feats(0, 0, 6), pairs(0, 0), feats(0, 0, 1)},
		"the last place":            {feats(255, 255, 1), feats(255, 255, 6), pairs(0, 0), feats(255, 255, 1)},
		"from end to end":           {feats(0, 255, 1), feats(255, 0, 6), pairs(0, 0), feats(128, 128, 1)},
		"in the middle":             {feats(0, 1, 0), feats(1, 2, 0), pairs(0, 0), feats(1, 2, 0)},
		"in the middle, downwards":  {feats(1, 2, 0), feats(0, 1, 0), pairs(0, 0), feats(1, 2, 0)},
		"the last middle":           {feats(254, 255, 0), feats(255, 254, 0), pairs(0, 0), feats(255, 255, 0)},
		"two of b, a quarter":       {line(0), line(0, 1), pairs(0, 0, 0, 1), line(0)},
		"two of b, a half":          {line(0), line(1, 1), pairs(0, 0, 0, 1), line(1)},
		"two of b, three quarters":  {line(0), line(1, 2), pairs(0, 0, 0, 1), line(1)},
		"two of b, below a half":    {line(10), line(12, 13), pairs(0, 0, 0, 1), line(11)},
		"two of b, less than a":     {line(10), line(8, 9), pairs(0, 0, 0, 1), line(9)},
		"two of b, a half below":    {line(10), line(9, 8), pairs(0, 0, 0, 1), line(9)},
		"two of b, a half below 10": {line(10), line(9, 9), pairs(0, 0, 0, 1), line(10)},
		"three of b, two sixths":    {line(0), line(0, 1, 1), pairs(0, 0, 0, 1, 0, 2), line(0)},
		"three of b, a half":        {line(0), line(1, 1, 1), pairs(0, 0, 0, 1, 0, 2), line(1)},
		"three of b, four sixths":   {line(0), line(1, 1, 2), pairs(0, 0, 0, 1, 0, 2), line(1)},
		"a counts as much as b":     {line(90), line(0, 0, 0), pairs(0, 0, 0, 1, 0, 2), line(45)},
		"two of a, one of b":        {line(0, 10), line(20), pairs(0, 0, 1, 0), line(10, 15)},
		"the example's lists":       {line(0, 10), line(0, 5, 10), pairs(0, 0, 0, 1, 1, 2), line(1, 10)},
		"another path for them":     {line(0, 10), line(0, 5, 10), pairs(0, 0, 1, 0, 1, 1, 1, 2), line(0, 8)},
		"one of b twice":            {line(0, 10), line(0, 5, 10), pairs(0, 0, 0, 1, 1, 1, 1, 2), line(1, 9)},
		"X and Y":                   {feats(0, 100, 0, 10, 90, 1), feats(20, 50, 2, 30, 70, 3), pairs(0, 0, 1, 1), feats(10, 75, 0, 20, 80, 1)},
		"Y of many":                 {feats(0, 4, 7), feats(0, 9, 1, 0, 7, 2, 0, 2, 3), pairs(0, 0, 0, 1, 0, 2), feats(0, 5, 7)},
		"72 of b, a half":           {line(0), slices.Repeat(line(1), 72), exchanged(column(72)), line(1)},
		"72 of b, less":             {line(0), append(line(0), slices.Repeat(line(1), 71)...), exchanged(column(72)), line(0)},
		"72 of b, more":             {line(0), append(line(2), slices.Repeat(line(1), 71)...), exchanged(column(72)), line(1)},
		"72 of b, below 255":        {line(255), append(line(253), slices.Repeat(line(254), 71)...), exchanged(column(72)), line(254)},
		"72 of b, next to 255":      {line(255), slices.Repeat(line(254), 72), exchanged(column(72)), line(255)},
		"72 of a":                   {slices.Repeat(line(4), 72), line(7), column(72), slices.Repeat(line(6), 72)},
	} {
		is(t, name, all(impl.BlendFeats(c.a, c.b, c.path)), all(c.want, impl.OK))
	}
}

func TestBlendFeatsOfAnyPath(t *testing.T) {
	s := source(162)
	for _, p := range append(longSeqs(&s, 30), smallSeqs(&s, 200, 9)...) {
		path := randomMatches(&s, int64(len(p.a)), int64(len(p.b)))
		is(t, "any path", all(impl.BlendFeats(p.a, p.b, path)), all(blendAlong(p.a, p.b, path), impl.OK))
		path, _ = impl.ElasticPath(p.a, p.b, impl.MaxSeq)
		list, code := impl.BlendFeats(p.a, p.b, path)
		is(t, "the best path", all(list, code), all(blendAlong(p.a, p.b, path), impl.OK))
		is(t, "a sequence", all(impl.ValidSeq(list), len(list)), all(true, len(p.a)))
	}
}
