package tests

import (
	"slices"
	"strconv"
	"testing"

	"loop.example/g00918/impl"
)

func TestLimitsOfSequences(t *testing.T) {
	is(t, "limits", []int64{impl.MaxSeq, impl.DirWeight}, []int64{72, 16})
}

func TestValidSeq(t *testing.T) {
	s := source(151)
	for count := int64(1); count <= impl.MaxSeq; count++ {
		is(t, "so many", all(impl.ValidSeq(randomFeats(&s, count)), impl.ValidSeq(make([]impl.Feat, count))), all(true, true))
	}
	for count := int64(impl.MaxSeq + 1); count <= impl.MaxFeatList+2; count++ {
		is(t, "too many", all(impl.ValidSeq(randomFeats(&s, count)), impl.ValidSeq(make([]impl.Feat, count))), all(false, false))
	}
	for _, n := range []int64{0, impl.NormSide} {
		for d := range int64(impl.Directions) {
			is(t, "the limits of features", impl.ValidSeq(feats(n, 0, d, 0, n, d, n, n, d)), true)
		}
	}
	for name, list := range wrongSeqs() {
		is(t, name, impl.ValidSeq(list), false)
	}
	for at := range impl.MaxSeq {
		for _, f := range []impl.Feat{feat(-1, 0, 0), feat(0, impl.NormSide+1, 0), feat(0, 0, impl.Directions)} {
			list := make([]impl.Feat, impl.MaxSeq)
			list[at] = f
			is(t, "a wrong one at "+strconv.Itoa(at), impl.ValidSeq(list), false)
		}
	}
}

func TestFeatCost(t *testing.T) {
	side := int64(impl.NormSide)
	for name, c := range map[string]struct {
		a, b impl.Feat
		want int64
	}{
		"the example":            {feat(0, 0, 0), feat(3, 4, 7), 23},
		"equal ones":             {feat(7, 8, 5), feat(7, 8, 5), 0},
		"zeros":                  {feat(0, 0, 0), feat(0, 0, 0), 0},
		"the greatest ones":      {feat(side, side, 7), feat(side, side, 7), 0},
		"X":                      {feat(3, 8, 5), feat(5, 8, 5), 2},
		"X from end to end":      {feat(0, 8, 5), feat(side, 8, 5), 255},
		"Y":                      {feat(3, 8, 5), feat(3, 1, 5), 7},
		"Y from end to end":      {feat(3, 0, 5), feat(3, side, 5), 255},
		"X and Y against it":     {feat(10, 3, 5), feat(3, 10, 5), 14},
		"a direction":            {feat(3, 3, 5), feat(3, 3, 6), 16},
		"two steps":              {feat(3, 3, 1), feat(3, 3, 3), 32},
		"three steps":            {feat(3, 3, 1), feat(3, 3, 4), 48},
		"four steps":             {feat(3, 3, 1), feat(3, 3, 5), 64},
		"five steps, or three":   {feat(3, 3, 1), feat(3, 3, 6), 48},
		"six steps, or two":      {feat(3, 3, 1), feat(3, 3, 7), 32},
		"seven steps, or one":    {feat(3, 3, 0), feat(3, 3, 7), 16},
		"around to the first":    {feat(3, 3, 6), feat(3, 3, 0), 32},
		"around from the third":  {feat(3, 3, 2), feat(3, 3, 7), 48},
		"opposite ones":          {feat(3, 3, 0), feat(3, 3, 4), 64},
		"opposite ones at last":  {feat(3, 3, 3), feat(3, 3, 7), 64},
		"the greatest cost":      {feat(0, side, 6), feat(side, 0, 2), 574},
		"the greatest cost else": {feat(0, 0, 0), feat(side, side, 4), 574},
		"all parts":              {feat(100, 20, 7), feat(97, 60, 1), 75},
	} {
		is(t, name, all(impl.FeatCost(c.a, c.b)), all(c.want, impl.OK))
		is(t, name+", exchanged", all(impl.FeatCost(c.b, c.a)), all(c.want, impl.OK))
	}
}

// TestFeatCostOfAllParts has all differences of one part, with the other ones equal.
func TestFeatCostOfAllParts(t *testing.T) {
	table := row(0, 1, 2, 3, 4, 3, 2, 1)
	for d := range int64(8) {
		for e := range int64(8) {
			is(t, "directions", all(impl.FeatCost(feat(9, 9, d), feat(9, 9, e))), all(16*table[(e-d+8)%8], impl.OK))
		}
	}
	for n := range int64(256) {
		for _, m := range []int64{0, 1, 127, 128, 254, 255} {
			is(t, "X", all(impl.FeatCost(feat(n, 9, 3), feat(m, 9, 3))), all(gap(n, m), impl.OK))
			is(t, "Y", all(impl.FeatCost(feat(9, n, 3), feat(9, m, 3))), all(gap(n, m), impl.OK))
			is(t, "X and Y", all(impl.FeatCost(feat(m, n, 3), feat(n, m, 3))), all(2*gap(n, m), impl.OK))
		}
	}
	s := source(152)
	for range 2000 {
		a, b := randomFeats(&s, 1)[0], randomFeats(&s, 1)[0]
		is(t, "any features", all(impl.FeatCost(a, b)), all(costBetween(a, b), impl.OK))
	}
}

func TestFeatCostOfInvalid(t *testing.T) {
	for name, f := range wrongFeats() {
		for _, good := range []impl.Feat{feat(0, 0, 0), feat(5, 6, 3), feat(255, 255, 7)} {
			is(t, "a: "+name, all(impl.FeatCost(f, good)), all(0, impl.ErrInvalid))
			is(t, "b: "+name, all(impl.FeatCost(good, f)), all(0, impl.ErrInvalid))
		}
		is(t, "both: "+name, all(impl.FeatCost(f, f)), all(0, impl.ErrInvalid))
	}
}

func TestElastic(t *testing.T) {
	most := func(f impl.Feat) []impl.Feat { return slices.Repeat([]impl.Feat{f}, impl.MaxSeq) }
	for name, c := range map[string]struct {
		a, b       []impl.Feat
		band, want int64
	}{
		"the example":                {feats(0, 0, 0), feats(3, 4, 7), 0, 23},
		"one and one":                {feats(7, 8, 5), feats(7, 8, 5), 0, 0},
		"one and many":               {line(5), line(1, 9, 4, 5), 3, 4 + 4 + 1},
		"many and one":               {line(1, 9, 4, 5), line(5), 3, 4 + 4 + 1},
		"equal ones":                 {feats(1, 2, 3, 4, 5, 6), feats(1, 2, 3, 4, 5, 6), 0, 0},
		"one more":                   {line(0, 10), line(0, 5, 10), 1, 5},
		"one twice":                  {line(0, 10), line(0, 10, 10), 1, 0},
		"the first one twice":        {line(0, 10), line(0, 0, 10), 1, 0},
		"without room":               {line(0, 0, 9), line(0, 9, 9), 0, 9},
		"with room":                  {line(0, 0, 9), line(0, 9, 9), 1, 0},
		"with room on the other":     {line(0, 9, 9), line(0, 0, 9), 1, 0},
		"band of one is too little":  {line(0, 0, 0, 9), line(0, 9, 9, 9), 1, 9},
		"a band of two is enough":    {line(0, 0, 0, 9), line(0, 9, 9, 9), 2, 0},
		"both ends count":            {line(3, 5, 5), line(5, 5, 9), 2, 2 + 4},
		"by directions":              {feats(0, 0, 0, 0, 0, 4), feats(0, 0, 1, 0, 0, 7), 1, 16 + 48},
		"the most, equal":            {most(feat(1, 2, 3)), most(feat(1, 2, 3)), 0, 0},
		"the most, far":              {most(feat(0, 0, 0)), most(feat(255, 255, 4)), impl.MaxSeq, 72 * 574},
		"the most, far, without":     {most(feat(0, 0, 0)), most(feat(255, 255, 4)), 0, 72 * 574},
		"the most and one, far":      {most(feat(0, 255, 2)), feats(255, 0, 6), 71, 72 * 574},
		"one and the most, far":      {feats(255, 0, 6), most(feat(0, 255, 2)), impl.MaxSeq, 72 * 574},
		"one is far":                 {append(most(feat(1, 2, 3))[1:], feat(1, 2, 4)), most(feat(1, 2, 3)), 5, 16},
		"nothing in common":          {line(1, 2), line(8, 9), 2, 14},
		"in the opposite order":      {line(1, 2, 3), line(3, 2, 1), 2, 2 + 0 + 2},
		"the diagonal is not enough": {line(5, 0, 5), line(0, 5, 0), 1, 10},
	} {
		is(t, name, all(impl.Elastic(c.a, c.b, c.band)), all(c.want, impl.OK))
	}
}

// TestElasticByAllPaths tries all paths of small lists, with every band.
func TestElasticByAllPaths(t *testing.T) {
	s := source(153)
	for _, p := range smallSeqs(&s, 60, 5) {
		for _, band := range append(p.bandsFor(), impl.MaxSeq) {
			least, best := bestAmong(p.a, p.b, pathsFor(int64(len(p.a)), int64(len(p.b)), band))
			is(t, "the least cost", all(impl.Elastic(p.a, p.b, band)), all(least, impl.OK))
			is(t, "its path", all(impl.ElasticPath(p.a, p.b, band)), all(best, impl.OK))
		}
	}
}

func TestElasticOfLongLists(t *testing.T) {
	s := source(154)
	for _, p := range longSeqs(&s, 25) {
		for _, band := range []int64{p.difference(), min(p.difference()+1, impl.MaxSeq), min(p.difference()+s.below(9), impl.MaxSeq), impl.MaxSeq} {
			is(t, "the least cost", all(impl.Elastic(p.a, p.b, band)), all(leastOf(p.a, p.b, band), impl.OK))
		}
	}
}

// bandCalls are the functions with a band.
func bandCalls(a, b []impl.Feat, band int64) []any {
	cost, costCode := impl.Elastic(a, b, band)
	path, pathCode := impl.ElasticPath(a, b, band)
	return all(cost, costCode, path, pathCode)
}

func TestBands(t *testing.T) {
	none := []impl.Pair{}
	refused := all(0, impl.ErrRange, none, impl.ErrRange)
	s := source(155)
	for _, p := range append(longSeqs(&s, 10), smallSeqs(&s, 30, 9)...) {
		least := p.difference()
		for _, band := range append(extremes(), -1, -2, least-1, impl.MaxSeq+1, impl.MaxSeq+2, -least-1) {
			if band < least || band > impl.MaxSeq {
				is(t, "band "+strconv.FormatInt(band, 10), bandCalls(p.a, p.b, band), refused)
			}
		}
		for _, band := range row(least, impl.MaxSeq, max(least, impl.MaxSeq-1)) {
			path, code := impl.ElasticPath(p.a, p.b, band)
			is(t, "band "+strconv.FormatInt(band, 10), all(code, len(path) > 0), all(impl.OK, true))
			is(t, "enough", bandCalls(p.a, p.b, band), all(costAlong(p.a, p.b, path), impl.OK, path, impl.OK))
		}
	}
	for name, c := range map[string]struct {
		a, b []impl.Feat
		band int64
		want []any
	}{
		"0 for equal lengths":      {line(1, 2), line(1, 2), 0, all(0, impl.OK, pairs(0, 0, 1, 1), impl.OK)},
		"0 for one more":           {line(1, 2), line(1, 2, 3), 0, refused},
		"0 for one less":           {line(1, 2, 3), line(1, 2), 0, refused},
		"1 for one more":           {line(1, 2), line(1, 2, 3), 1, all(1, impl.OK, pairs(0, 0, 1, 1, 1, 2), impl.OK)},
		"1 for one less":           {line(1, 2, 3), line(1, 2), 1, all(1, impl.OK, pairs(0, 0, 1, 1, 2, 1), impl.OK)},
		"70 for 71 more":           {line(1), slices.Repeat(line(1), 72), 70, refused},
		"71 for 71 more":           {line(1), slices.Repeat(line(1), 72), 71, all(0, impl.OK, exchanged(column(72)), impl.OK)},
		"71 for 71 less":           {slices.Repeat(line(1), 72), line(1), 71, all(0, impl.OK, column(72), impl.OK)},
		"MaxSeq for one and one":   {line(1), line(3), impl.MaxSeq, all(2, impl.OK, pairs(0, 0), impl.OK)},
		"too much for one and one": {line(1), line(3), impl.MaxSeq + 1, refused},
		"-1 for one and one":       {line(1), line(3), -1, refused},
	} {
		is(t, name, bandCalls(c.a, c.b, c.band), c.want)
	}
}

// column returns the path that matches each of n elements with the only one of the other list.
func column(n int64) []impl.Pair {
	var path []impl.Pair
	for i := range n {
		path = append(path, match(i, 0))
	}
	return path
}

func TestElasticOfInvalid(t *testing.T) {
	refusal := all(0, impl.ErrInvalid, []impl.Pair{}, impl.ErrInvalid)
	for _, band := range []int64{0, 3, 72, -1, 73, leastInt, greatestInt} {
		refusedSeqs(t, "with the band "+strconv.FormatInt(band, 10), func(a, b []impl.Feat) []any { return bandCalls(a, b, band) }, refusal)
	}
}
