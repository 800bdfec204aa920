package tests

import (
	"fmt"
	"slices"
	"testing"

	"loop.example/g00918/impl"
)

func TestInputOf(t *testing.T) {
	for name, c := range map[string]struct {
		list []impl.Feat
		want []int64
	}{
		"the example":                        {feats(0, 0, 3), weights(3, 256, 8, 256, 24, 256)},
		"the first direction":                {feats(0, 0, 0), weights(0, 256, 8, 256, 24, 256)},
		"the last direction":                 {feats(0, 0, 7), weights(7, 256, 8, 256, 24, 256)},
		"the last field":                     {feats(255, 255, 7), weights(7, 256, 23, 256, 24, 256)},
		"to the right":                       {feats(255, 0, 1), weights(1, 256, 11, 256, 24, 256)},
		"at the bottom":                      {feats(0, 255, 1), weights(1, 256, 20, 256, 24, 256)},
		"the second column":                  {feats(64, 0, 2), weights(2, 256, 9, 256, 24, 256)},
		"the second row":                     {feats(0, 64, 2), weights(2, 256, 12, 256, 24, 256)},
		"the end of the first column":        {feats(63, 0, 2), weights(2, 256, 8, 256, 24, 256)},
		"the end of the first row":           {feats(0, 63, 2), weights(2, 256, 8, 256, 24, 256)},
		"in the middle":                      {feats(127, 128, 4), weights(4, 256, 17, 256, 24, 256)},
		"in the middle, farther":             {feats(128, 127, 4), weights(4, 256, 14, 256, 24, 256)},
		"twice the same":                     {feats(0, 0, 3, 0, 0, 3), weights(3, 256, 8, 256, 24, 256)},
		"two directions":                     {feats(0, 0, 3, 0, 0, 4), weights(3, 128, 4, 128, 8, 256, 24, 256)},
		"two fields":                         {feats(0, 0, 3, 255, 0, 3), weights(3, 256, 8, 128, 11, 128, 24, 256)},
		"two of both":                        {feats(0, 0, 3, 255, 0, 0), weights(0, 128, 3, 128, 8, 128, 11, 128, 24, 256)},
		"a third":                            {feats(0, 0, 3, 0, 0, 3, 0, 0, 1), weights(1, 85, 3, 171, 8, 256, 24, 256)},
		"thirds":                             {feats(0, 0, 0, 100, 0, 1, 200, 0, 2), weights(0, 85, 1, 85, 2, 85, 8, 85, 9, 85, 11, 85, 24, 256)},
		"fifths, rounded down and up":        {feats(0, 0, 0, 0, 0, 1, 0, 0, 1, 0, 64, 1, 64, 0, 1), weights(0, 51, 1, 205, 8, 154, 9, 51, 12, 51, 24, 256)},
		"sixths, of which the sum is 258":    {feats(0, 0, 0, 0, 0, 1, 0, 0, 2, 0, 0, 3, 0, 0, 4, 0, 0, 5), weights(0, 43, 1, 43, 2, 43, 3, 43, 4, 43, 5, 43, 8, 256, 24, 256)},
		"sevenths":                           {feats(0, 0, 0, 0, 0, 1, 0, 0, 2, 0, 0, 3, 0, 0, 4, 0, 0, 5, 0, 0, 6), weights(0, 37, 1, 37, 2, 37, 3, 37, 4, 37, 5, 37, 6, 37, 8, 256, 24, 256)},
		"one of the most":                    {append(level(383, feat(0, 0, 0)), feat(0, 0, 1)), weights(0, 255, 1, 1, 8, 256, 24, 256)},
		"just below and just above a half":   {append(level(95, feat(9, 9, 5)), level(288, feat(99, 99, 6))...), weights(5, 63, 6, 193, 8, 63, 13, 193, 24, 256)},
		"one of 383":                         {append(level(382, feat(0, 0, 0)), feat(255, 255, 7)), weights(0, 255, 7, 1, 8, 255, 23, 1, 24, 256)},
		"a direction of one field":           {append(level(3, feat(1, 1, 0)), feat(1, 200, 0)), weights(0, 256, 8, 192, 20, 64, 24, 256)},
		"as many features as of a sequence":  {append(level(36, feat(1, 1, 0)), level(36, feat(200, 1, 0))...), weights(0, 256, 8, 128, 11, 128, 24, 256)},
		"one more than those of a sequence":  {append(level(37, feat(1, 1, 0)), level(36, feat(200, 1, 0))...), weights(0, 256, 8, 130, 11, 126, 24, 256)},
		"the most features, of one sort":     {level(384, feat(64, 128, 6)), weights(6, 256, 17, 256, 24, 256)},
		"the most features, of three sorts":  {slices.Concat(level(128, feat(64, 128, 6)), level(128, feat(1, 1, 6)), level(128, feat(1, 1, 0))), weights(0, 85, 6, 171, 8, 171, 17, 85, 24, 256)},
		"a field whose features are apart":   {feats(64, 64, 0, 127, 127, 0, 64, 127, 0, 127, 64, 0), weights(0, 256, 13, 256, 24, 256)},
		"fields around the place of a cross": {feats(63, 63, 0, 64, 63, 0, 63, 64, 0, 64, 64, 0), weights(0, 256, 8, 64, 9, 64, 12, 64, 13, 64, 24, 256)},
	} {
		is(t, name, all(impl.InputOf(c.list)), all(c.want, impl.OK))
	}
}

// TestInputOfFields has every place of the square, and every direction at the borders of the fields.
func TestInputOfFields(t *testing.T) {
	for x := range int64(256) {
		for y := range int64(256) {
			want := inputFor(feats(x, y, (x+y)%8))
			if got, code := impl.InputOf(feats(x, y, (x+y)%8)); code != impl.OK || !slices.Equal(got, want) {
				t.Fatalf("at %d %d: got %v and %d, want %v", x, y, got, code, want)
			}
		}
	}
	borders := row(0, 63, 64, 127, 128, 191, 192, 255)
	for k, y := range borders {
		for m, x := range borders {
			for d := range int64(8) {
				field := int64(8 + k/2*4 + m/2)
				is(t, fmt.Sprint("at ", x, " ", y, " ", d), all(impl.InputOf(feats(x, y, d))), all(weights(d, 256, field, 256, 24, 256), impl.OK))
			}
		}
	}
}

// TestInputOfCounts has, for every number of features, every number of those with a direction and a field.
// No quotient is exactly between two integers: for this, the number of features would have to be a multiple of 512.
// So the quotients with the remainders next to the half are what shows how they are rounded.
func TestInputOfCounts(t *testing.T) {
	below, above := 0, 0
	for n := int64(1); n <= impl.MaxFeatList; n++ {
		for count := range n + 1 {
			input, code := impl.InputOf(append(level(int(count), feat(0, 0, 2)), level(int(n-count), feat(70, 200, 5))...))
			one, other := rounded(256*count, n), rounded(256*(n-count), n)
			want := weights(2, one, 5, other, 8, one, 21, other, 24, 256)
			if code != impl.OK || !slices.Equal(input, want) {
				t.Fatalf("%d of %d: got %v and %d, want %v", count, n, input, code, want)
			}
			switch twice := 512 * count % (2 * n); twice {
			case n - 1:
				below++
			case n + 1:
				above++
			case n:
				t.Errorf("%d of %d is exactly between two integers", count, n)
			}
		}
	}
	is(t, "quotients next to a half on both sides", all(below > 100, above > 100), all(true, true))
}

func TestInputOfMany(t *testing.T) {
	s := source(300)
	for _, list := range manyFeats(&s) {
		want := all(inputFor(list), impl.OK)
		is(t, "any features", all(impl.InputOf(list)), want)
		back := slices.Clone(list)
		slices.Reverse(back)
		is(t, "in another order", all(impl.InputOf(back)), want)
		if len(list) <= impl.MaxFeatList/2 {
			is(t, "each one twice", all(impl.InputOf(append(back, list...))), want)
		}
	}
	for _, count := range row(1, 2, impl.MaxSeq-1, impl.MaxSeq, impl.MaxSeq+1, impl.MaxFeatList-1, impl.MaxFeatList) {
		list := randomFeats(&s, count)
		is(t, fmt.Sprint(count, " features"), all(impl.InputOf(list)), all(inputFor(list), impl.OK))
	}
}

func TestInputOfInvalid(t *testing.T) {
	refusedFeats(t, "InputOf", func(list []impl.Feat) []any { return all(impl.InputOf(list)) }, row())
	s := source(301)
	for _, count := range row(0, impl.MaxFeatList+1, impl.MaxFeatList+2, 512, 1000, 100000) {
		is(t, fmt.Sprint(count, " features"), all(impl.InputOf(randomFeats(&s, count))), all(row(), impl.ErrInvalid))
	}
}
