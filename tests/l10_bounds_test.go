package tests

import (
	"slices"
	"testing"

	"loop.example/g00918/impl"
)

func TestEndsBound(t *testing.T) {
	for name, c := range map[string]struct {
		a, b []impl.Feat
		want int64
	}{
		"one and one":              {feats(0, 0, 0), feats(3, 4, 7), 23},
		"one and one, equal":       {feats(7, 8, 5), feats(7, 8, 5), 0},
		"one and one, far":         {feats(0, 255, 2), feats(255, 0, 6), 574},
		"one and two":              {line(5), line(7, 9), 2 + 4},
		"two and one":              {line(7, 9), line(5), 2 + 4},
		"one and two equal ones":   {line(5), line(7, 7), 2 + 2},
		"two equal ones and one":   {line(7, 7), line(5), 2 + 2},
		"one and many":             {line(5), line(6, 200, 3), 1 + 2},
		"many and one":             {line(6, 200, 3), line(5), 1 + 2},
		"one and the most":         {line(5), level(72, feat(6, 0, 0)), 2},
		"two and two":              {line(1, 2), line(11, 22), 10 + 20},
		"two and three":            {line(1, 2), line(11, 100, 22), 10 + 20},
		"the middle is not there":  {line(1, 90, 2), line(1, 10, 2), 0},
		"the first ones only":      {line(1, 90, 2), line(4, 90, 2), 3},
		"the last ones only":       {line(1, 90, 2), line(1, 90, 4), 2},
		"not across":               {line(1, 9), line(9, 1), 16},
		"by directions":            {feats(0, 0, 0, 0, 0, 4), feats(0, 0, 7, 0, 0, 6), 16 + 32},
		"by Y":                     {feats(0, 9, 0, 0, 90, 0), feats(0, 4, 0, 0, 92, 0), 5 + 2},
		"the most, equal":          {rising(), rising(), 0},
		"the most, far":            {level(72, feat(0, 0, 0)), level(72, feat(255, 255, 4)), 2 * 574},
		"equal lists":              {feats(1, 2, 3, 4, 5, 6), feats(1, 2, 3, 4, 5, 6), 0},
		"lengths that are far off": {line(1, 2), append(rising(), feat(9, 9, 9))[:72], 1 + 69},
	} {
		is(t, name, all(impl.EndsBound(c.a, c.b)), all(c.want, impl.OK))
		is(t, name+", exchanged", all(impl.EndsBound(c.b, c.a)), all(c.want, impl.OK))
	}
	s := source(211)
	for _, p := range append(longSeqs(&s, 40), smallSeqs(&s, 100, 4)...) {
		is(t, "any lists", all(impl.EndsBound(p.a, p.b)), all(endsFor(p.a, p.b), impl.OK))
	}
}

func TestEndsBoundOfInvalid(t *testing.T) {
	refusedSeqs(t, "EndsBound", func(a, b []impl.Feat) []any { return all(impl.EndsBound(a, b)) }, all(0, impl.ErrInvalid))
}

func TestLowerBound(t *testing.T) {
	for name, c := range map[string]struct {
		a, b       []impl.Feat
		band, want int64
	}{
		"the example":                {feats(1, 2, 3, 4, 5, 6), feats(1, 2, 3, 4, 5, 6), 0, 0},
		"the example, with room":     {feats(1, 2, 3, 4, 5, 6), feats(1, 2, 3, 4, 5, 6), impl.MaxSeq, 0},
		"the example for the most":   {rising(), rising(), 0, 0},
		"one and one":                {feats(0, 0, 0), feats(3, 4, 7), 0, 23},
		"less than the cost":         {line(0, 10), line(0, 5, 10), 1, 0},
		"the ends are greater":       {line(0, 5, 0), line(9, 5, 9), 2, 18},
		"the outside is greater":     {line(5, 200, 5), line(5, 7, 5), 1, 193},
		"the outside with no room":   {line(5, 200, 5), line(5, 7, 8), 0, 193 + 3},
		"the ends with all room":     {line(5, 6, 5), line(6, 7, 6), 2, 2},
		"the outside with all room":  {line(1, 1, 1, 1), line(3, 4, 4, 3), 3, 8},
		"both are equal":             {line(1, 5, 2), line(3, 5, 5), 0, 5},
		"directions at the ends":     {feats(3, 3, 0, 3, 3, 1), feats(3, 3, 4, 3, 3, 7), 0, 64 + 32},
		"directions in the middle":   {feats(3, 3, 0, 3, 3, 1, 3, 3, 0), feats(3, 3, 0, 3, 3, 5, 3, 3, 0), 0, 0},
		"a is not b":                 {line(0, 5), line(2, 2), 1, 5},
		"of a, not of b":             {line(5, 5, 5), line(5, 90, 5), 1, 0},
		"of b, not of a":             {line(5, 90, 5), line(5, 5, 5), 1, 85},
		"by a neighbour":             {line(5, 90, 5, 5), line(5, 5, 90, 5), 1, 0},
		"by no neighbour":            {line(5, 90, 5, 5), line(5, 5, 90, 5), 0, 85 + 85},
		"by one two steps away":      {line(5, 90, 5, 5), line(5, 5, 5, 90), 2, 85},
		"one and many":               {line(5), line(6, 0, 8), 2, 4},
		"many and one":               {line(6, 0, 8), line(5), 2, 1 + 5 + 3},
		"many of a, in sum":          {line(9, 9, 9, 9, 9), line(5, 6, 7, 8, 5), 4, 8},
		"many of a, in sum, outside": {line(9, 9, 9, 9, 9), line(5, 6, 7, 8, 5), 0, 4 + 3 + 2 + 1 + 4},
		"the most, far":              {level(72, feat(0, 0, 0)), level(72, feat(255, 255, 4)), impl.MaxSeq, 72 * 510},
		"one and the most, far":      {feats(0, 0, 0), level(72, feat(255, 255, 4)), 71, 2 * 574},
	} {
		is(t, name, all(impl.LowerBound(c.a, c.b, c.band)), all(c.want, impl.OK))
	}
}

// TestBoundsOfAllSmallLists compares the bounds of all lists of three sorts of features with the least costs of all paths.
func TestBoundsOfAllSmallLists(t *testing.T) {
	lists := allSmallSeqs(4)
	paths := map[[3]int64][][]impl.Pair{}
	for _, a := range lists {
		for _, b := range lists {
			p := seqPair{a, b}
			for _, band := range append(p.bandsFor(), impl.MaxSeq) {
				key := [3]int64{int64(len(a)), int64(len(b)), band}
				if paths[key] == nil {
					paths[key] = pathsFor(key[0], key[1], band)
				}
				least, _ := bestAmong(a, b, paths[key])
				checkBounds(t, p, band, least)
			}
		}
	}
}

// checkBounds checks all bounds of two lists, whose least cost is known.
func checkBounds(t *testing.T, p seqPair, band, least int64) {
	t.Helper()
	e, envelopeCode := impl.EnvelopeOf(p.b, int64(len(p.a)), band)
	outside, outsideCode := impl.OutsideOf(p.a, e)
	ends, endsCode := impl.EndsBound(p.a, p.b)
	bound, boundCode := impl.LowerBound(p.a, p.b, band)
	is(t, "codes", all(envelopeCode, outsideCode, endsCode, boundCode), all(impl.OK, impl.OK, impl.OK, impl.OK))
	is(t, "the bound", bound, boundFor(p.a, p.b, band))
	is(t, "the greater one of both", bound, max(outside, ends))
	is(t, "never greater than the least cost", all(outside <= least, ends <= least, bound <= least), all(true, true, true))
	is(t, "never negative", all(outside >= 0, ends >= 0), all(true, true))
}

// TestBoundsOfSmallLists tries all paths of longer lists than those that can all be made.
func TestBoundsOfSmallLists(t *testing.T) {
	s := source(212)
	for _, p := range smallSeqs(&s, 60, 5) {
		for _, band := range append(p.bandsFor(), impl.MaxSeq) {
			least, _ := bestAmong(p.a, p.b, pathsFor(int64(len(p.a)), int64(len(p.b)), band))
			checkBounds(t, p, band, least)
		}
	}
}

// TestBoundsOfLongLists is for promise 10, with lists up to MaxSeq.
func TestBoundsOfLongLists(t *testing.T) {
	s := source(213)
	for _, p := range longSeqs(&s, 25) {
		before := int64(greatestInt)
		for band := p.difference(); band <= impl.MaxSeq; band += 1 + s.below(20) {
			checkBounds(t, p, band, leastOf(p.a, p.b, band))
			cost, code := impl.Elastic(p.a, p.b, band)
			bound, _ := impl.LowerBound(p.a, p.b, band)
			is(t, "not greater than Elastic", all(bound <= cost, code), all(true, impl.OK))
			is(t, "a wider band has no greater bound", bound <= before, true)
			before = bound
		}
	}
}

// TestBoundsOfEqualLists is for the example.
func TestBoundsOfEqualLists(t *testing.T) {
	s := source(214)
	for _, p := range append(longSeqs(&s, 40), smallSeqs(&s, 50, 6)...) {
		for _, band := range row(0, 1, s.below(impl.MaxSeq), impl.MaxSeq-1, impl.MaxSeq) {
			e, _ := impl.EnvelopeOf(p.a, int64(len(p.a)), band)
			is(t, "the bound", all(impl.LowerBound(p.a, slices.Clone(p.a), band)), all(0, impl.OK))
			is(t, "within its own envelope", all(impl.OutsideOf(p.a, e)), all(0, impl.OK))
		}
		is(t, "the ends", all(impl.EndsBound(p.a, p.a)), all(0, impl.OK))
	}
}

func TestBandsOfLowerBound(t *testing.T) {
	refused := all(0, impl.ErrRange)
	s := source(215)
	list := append(longSeqs(&s, 10), smallSeqs(&s, 30, 9)...)
	list = append(list, seqPair{line(1), line(2)}, seqPair{line(1), level(72, feat(1, 2, 3))}, seqPair{level(72, feat(1, 2, 3)), line(1)})
	for _, p := range list {
		least := p.difference()
		for _, band := range append(extremes(), -1, -2, least-1, impl.MaxSeq+1, impl.MaxSeq+2, -least-1) {
			_, elastic := impl.Elastic(p.a, p.b, band)
			if band < least || band > impl.MaxSeq {
				is(t, "band "+impl.Decimal(band), all(impl.LowerBound(p.a, p.b, band)), refused)
			}
			_, code := impl.LowerBound(p.a, p.b, band)
			is(t, "as Elastic", code, elastic)
		}
		for _, band := range row(least, min(least+1, impl.MaxSeq), impl.MaxSeq-1, impl.MaxSeq) {
			is(t, "band "+impl.Decimal(band), all(impl.LowerBound(p.a, p.b, band)), all(boundFor(p.a, p.b, band), impl.OK))
		}
	}
}

func TestLowerBoundOfInvalid(t *testing.T) {
	for _, band := range append(extremes(), 0, 3, 72, -1, 73) {
		call := func(a, b []impl.Feat) []any { return all(impl.LowerBound(a, b, band)) }
		refusedSeqs(t, "with the band "+impl.Decimal(band), call, all(0, impl.ErrInvalid))
	}
}
