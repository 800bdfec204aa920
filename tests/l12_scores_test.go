package tests

import (
	"fmt"
	"slices"
	"testing"

	"loop.example/g00918/impl"
)

// corner has the input 256 at the indices 3, 8 and 24.
func corner() []impl.Feat { return feats(0, 0, 3) }

func TestScoresOf(t *testing.T) {
	halves := feats(0, 0, 3, 255, 255, 4)
	for name, c := range map[string]struct {
		p    impl.Perceptron
		list []impl.Feat
		want []int64
	}{
		"no weights":                 {blank("abc"), corner(), row(0, 0, 0)},
		"a direction":                {perceptron("a", weights(3, 7)), corner(), row(1792)},
		"a field":                    {perceptron("a", weights(8, 7)), corner(), row(1792)},
		"the last number":            {perceptron("a", weights(24, 7)), corner(), row(1792)},
		"all three":                  {perceptron("a", weights(3, 1, 8, 10, 24, 100)), corner(), row(28416)},
		"others":                     {perceptron("a", weights(2, 1, 4, 10, 9, 100, 23, 1000, 0, 9)), corner(), row(0)},
		"a negative one":             {perceptron("a", weights(3, -1)), corner(), row(-256)},
		"weights of both signs":      {perceptron("a", weights(3, -3, 8, 2, 24, 1)), corner(), row(0)},
		"two rows":                   {perceptron("ab", weights(3, 1), weights(8, -2)), corner(), row(256, -512)},
		"three rows":                 {perceptron("+09", weights(3, 1), weights(9, 5), weights(24, 3)), corner(), row(256, 0, 768)},
		"halves":                     {perceptron("ab", weights(3, 1, 4, 10, 8, 100, 23, 1000, 24, 10000), weights(5, 1, 8, -1)), halves, row(2702208, -128)},
		"thirds":                     {perceptron("a", weights(3, 1, 1, 1000)), feats(0, 0, 3, 64, 255, 1, 64, 192, 1), row(171085)},
		"the greatest weights":       {perceptron("a", slices.Repeat(row(1000000), 25)), corner(), row(768000000)},
		"the least weights":          {perceptron("a", slices.Repeat(row(-1000000), 25)), corner(), row(-768000000)},
		"the greatest and the least": {perceptron("ab", slices.Repeat(row(-1000000), 25), slices.Repeat(row(1000000), 25)), halves, row(-768000000, 768000000)},
	} {
		is(t, name, all(impl.ScoresOf(c.p, c.list)), all(c.want, impl.OK))
	}
}

// TestScoresOfEachWeight has one weight that is not 0, in each place.
func TestScoresOfEachWeight(t *testing.T) {
	list := feats(0, 0, 0, 100, 0, 1, 200, 0, 2, 0, 100, 3, 70, 70, 4, 130, 70, 5, 0, 200, 6, 70, 255, 7, 255, 255, 0, 5, 5, 0)
	input := inputFor(list)
	for at := range 4 {
		for index := range 25 {
			p, want := blank("abcd"), make([]int64, 4)
			p.Weights[at][index] = 3
			want[at] = 3 * input[index]
			is(t, fmt.Sprint("a weight at ", at, " ", index), all(impl.ScoresOf(p, list)), all(want, impl.OK))
		}
	}
}

func TestScoresOfMany(t *testing.T) {
	s := source(320)
	lists := append(manyFeats(&s), randomFeats(&s, impl.MaxSeq+1))
	for _, p := range manyPerceptrons(&s) {
		for range 8 {
			list := lists[s.below(int64(len(lists)))]
			is(t, "scores", all(impl.ScoresOf(p, list)), all(scoresFor(p, list), impl.OK))
			label, margin := classFor(p, list)
			is(t, "class", all(impl.Classify(p, list)), all(label, margin, impl.OK))
		}
	}
}

// withScores returns a perceptron whose scores for corner are the numbers, times 256.
func withScores(labels string, scores ...int64) impl.Perceptron {
	p := perceptron(labels)
	for at, score := range scores {
		// The same score is reached in different ways.
		p.Weights = append(p.Weights, weights([]int64{3, 8, 24}[at%3], score, int64(9+at), 999))
	}
	return p
}

func TestClassify(t *testing.T) {
	for name, c := range map[string]struct {
		p      impl.Perceptron
		label  string
		margin int64
	}{
		"one label":                              {withScores("a", 5), "a", 0},
		"one label, a negative score":            {withScores("z", -5), "z", 0},
		"one label, no score":                    {withScores("(", 0), "(", 0},
		"the first of two":                       {withScores("ab", 7, 5), "a", 512},
		"the last of two":                        {withScores("ab", 5, 7), "b", 512},
		"equal ones":                             {withScores("ab", 5, 5), "a", 0},
		"equal ones, not by their bytes":         {withScores("+a", 5, 5), "+", 0},
		"negative ones, the first":               {withScores("ab", -5, -8), "a", 768},
		"negative ones, the last":                {withScores("ab", -8, -5), "b", 768},
		"equal negative ones":                    {withScores("ab", -5, -5), "a", 0},
		"of both signs":                          {withScores("ab", -5, 5), "b", 2560},
		"0 and a negative one":                   {withScores("ab", -1, 0), "b", 256},
		"the first of three":                     {withScores("abc", 9, 5, 7), "a", 512},
		"the middle one":                         {withScores("abc", 5, 9, 8), "b", 256},
		"the last of three":                      {withScores("abc", 5, 7, 9), "c", 512},
		"the margin to the one before":           {withScores("abc", 5, 8, 9), "c", 256},
		"the margin to the first one":            {withScores("abc", 8, 5, 9), "c", 256},
		"the first two are equal":                {withScores("abc", 9, 9, 5), "a", 0},
		"the last two are equal":                 {withScores("abc", 5, 9, 9), "b", 0},
		"the first and the last one":             {withScores("abc", 9, 5, 9), "a", 0},
		"all three":                              {withScores("abc", 9, 9, 9), "a", 0},
		"lesser ones are equal":                  {withScores("abc", 5, 9, 5), "b", 1024},
		"all negative":                           {withScores("abc", -7, -5, -6), "b", 256},
		"all negative, the greatest one twice":   {withScores("abc", -7, -5, -5), "b", 0},
		"rising":                                 {withScores("abcdefghijkl", 1, 2, 3, 4, 5, 6, 7, 8, 9, 10, 11, 12), "l", 256},
		"falling":                                {withScores("abcdefghijkl", 12, 11, 10, 9, 8, 7, 6, 5, 4, 3, 2, 1), "a", 256},
		"the greatest one and others far below":  {withScores("abcdefghijkl", 0, 0, 0, 0, 0, 0, 9, 0, 0, 0, 0, 0), "g", 2304},
		"the least one and others that are even": {withScores("abcdefghijkl", -9, 0, 0, 0, 0, 0, 0, 0, 0, 0, 0, 0), "b", 0},
		"the limits":                             {withScores("ab", -1000000, 1000000), "b", 512000000},
		"no weights":                             {blank("cde"), "c", 0},
	} {
		is(t, name, all(impl.Classify(c.p, corner())), all(c.label, c.margin, impl.OK))
	}
	ends := perceptron("ab", slices.Repeat(row(-1000000), 25), slices.Repeat(row(1000000), 25))
	is(t, "the greatest margin of a feature", all(impl.Classify(ends, corner())), all("b", 1536000000, impl.OK))
}

// TestClassifyOrders has all orders of some scores, equal ones among them.
func TestClassifyOrders(t *testing.T) {
	for a := int64(-2); a <= 2; a++ {
		for b := int64(-2); b <= 2; b++ {
			for c := int64(-2); c <= 2; c++ {
				for d := int64(-2); d <= 2; d++ {
					p := withScores("0=az", a, b, c, d)
					label, margin := classFor(p, corner())
					is(t, fmt.Sprint(a, b, c, d), all(impl.Classify(p, corner())), all(label, margin, impl.OK))
				}
			}
		}
	}
}

func TestScoresInvalid(t *testing.T) {
	none, noClass := all(row(), impl.ErrInvalid), all("", 0, impl.ErrInvalid)
	refusedPerceptrons(t, "ScoresOf", func(p impl.Perceptron) []any { return all(impl.ScoresOf(p, corner())) }, none)
	refusedPerceptrons(t, "Classify", func(p impl.Perceptron) []any { return all(impl.Classify(p, corner())) }, noClass)
	refusedPerceptrons(t, "ScoresOf nothing", func(p impl.Perceptron) []any { return all(impl.ScoresOf(p, nil)) }, none)
	refusedPerceptrons(t, "Classify nothing", func(p impl.Perceptron) []any { return all(impl.Classify(p, nil)) }, noClass)
	refusedFeats(t, "ScoresOf", func(list []impl.Feat) []any { return all(impl.ScoresOf(plainPerceptron(), list)) }, row())
	for name, list := range wrongFeatLists() {
		is(t, name, all(impl.Classify(plainPerceptron(), list)), noClass)
		is(t, name+", with one label", all(impl.Classify(blank("a"), list)), noClass)
	}
	s := source(321)
	for _, count := range row(1, impl.MaxSeq, impl.MaxSeq+1, impl.MaxFeatList) {
		_, code := impl.ScoresOf(plainPerceptron(), randomFeats(&s, count))
		_, _, other := impl.Classify(plainPerceptron(), randomFeats(&s, count))
		is(t, fmt.Sprint(count, " features"), all(code, other), all(impl.OK, impl.OK))
	}
}
