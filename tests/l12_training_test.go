package tests

import (
	"fmt"
	"slices"
	"testing"

	"loop.example/g00918/impl"
)

// otherCorner has the input 256 at the indices 4, 23 and 24.
func otherCorner() []impl.Feat { return feats(255, 255, 4) }

func TestTrainOne(t *testing.T) {
	up, down := weights(3, 256, 8, 256, 24, 256), weights(3, -256, 8, -256, 24, -256)
	mixed := feats(0, 0, 3, 64, 255, 1, 64, 192, 1)
	for name, c := range map[string]struct {
		p       impl.Perceptron
		s       impl.Sample
		want    impl.Perceptron
		changed bool
	}{
		"the first of equal ones":           {blank("ab"), sample("a", corner()), blank("ab"), false},
		"the other one of equal ones":       {blank("ab"), sample("b", corner()), perceptron("ab", down, up), true},
		"the middle one of equal ones":      {blank("abc"), sample("b", corner()), perceptron("abc", down, up, weights()), true},
		"the last one of equal ones":        {blank("abc"), sample("c", corner()), perceptron("abc", down, weights(), up), true},
		"one label":                         {blank("a"), sample("a", corner()), blank("a"), false},
		"one label with a negative score":   {withScores("z", -9), sample("z", corner()), withScores("z", -9), false},
		"the greatest one":                  {withScores("abc", 1, 5, 2), sample("b", corner()), withScores("abc", 1, 5, 2), false},
		"the greatest one by 1":             {withScores("abc", 1, 3, 2), sample("b", corner()), withScores("abc", 1, 3, 2), false},
		"the first one, equal to the last":  {withScores("abc", 3, 1, 3), sample("a", corner()), withScores("abc", 3, 1, 3), false},
		"the last one, equal to the first":  {perceptron("abc", weights(3, 3), weights(3, 1), weights(24, 3)), sample("c", corner()), perceptron("abc", weights(3, -253, 8, -256, 24, -256), weights(3, 1), weights(3, 256, 8, 256, 24, 259)), true},
		"the least one":                     {perceptron("abc", weights(3, 1), weights(8, -7), weights(9, 5)), sample("b", corner()), perceptron("abc", weights(3, -255, 8, -256, 24, -256), weights(3, 256, 8, 249, 24, 256), weights(9, 5)), true},
		"the first one is lesser":           {perceptron("ab", weights(3, 1), weights(3, 2)), sample("a", corner()), perceptron("ab", weights(3, 257, 8, 256, 24, 256), weights(3, -254, 8, -256, 24, -256)), true},
		"one step is not enough":            {perceptron("ab", weights(3, 9000), weights(4, 7)), sample("b", corner()), perceptron("ab", weights(3, 8744, 8, -256, 24, -256), weights(3, 256, 4, 7, 8, 256, 24, 256)), true},
		"thirds":                            {blank("09"), sample("9", mixed), perceptron("09", weights(1, -171, 3, -85, 8, -85, 21, -171, 24, -256), weights(1, 171, 3, 85, 8, 85, 21, 171, 24, 256)), true},
		"the most labels":                   {blank("abcdefghijkl"), sample("l", corner()), perceptron("abcdefghijkl", append(append([][]int64{down}, slices.Repeat([][]int64{weights()}, 10)...), up)...), true},
		"more features than of a sequence":  {blank("ab"), sample("b", level(73, feat(0, 0, 3))), perceptron("ab", down, up), true},
		"the most features":                 {blank("ab"), sample("b", level(384, feat(0, 0, 3))), perceptron("ab", down, up), true},
		"weights that are not of the input": {perceptron("ab", weights(9, 5, 0, 6), weights(9, 7, 1, 8)), sample("b", corner()), perceptron("ab", weights(9, 5, 0, 6, 3, -256, 8, -256, 24, -256), weights(9, 7, 1, 8, 3, 256, 8, 256, 24, 256)), true},
	} {
		is(t, name, all(impl.TrainOne(c.p, c.s)), all(c.want, c.changed, impl.OK))
		count := int64(0)
		if c.changed {
			count = 1
		}
		is(t, name+", as an epoch", all(impl.TrainEpoch(c.p, samples(c.s))), all(c.want, count, impl.OK))
		is(t, name+", as a training", all(impl.Train(c.p, samples(c.s), 1)), all(c.want, row(count), impl.OK))
	}
}

// TestTrainOneMany compares single steps with another statement of them.
func TestTrainOneMany(t *testing.T) {
	s := source(330)
	changed, unchanged := 0, 0
	for _, p := range manyPerceptrons(&s) {
		for range 8 {
			some := []func(*source, int64) []impl.Feat{fewFeats, randomFeats, driftingFeats}[s.below(3)]
			one := randomSamples(&s, p, 1, some)[0]
			want := oneFor(p, one)
			is(t, "a step", all(impl.TrainOne(p, one)), want)
			if want[1] == true {
				changed++
			} else {
				unchanged++
			}
		}
	}
	is(t, "steps of both sorts", all(changed > 100, unchanged > 100), all(true, true))
}

// TestTrainEpochOrder has two samples that are told apart only if the second one is trained first.
func TestTrainEpochOrder(t *testing.T) {
	one, two := sample("b", corner()), sample("a", feats(0, 0, 4))
	first := perceptron("ab", weights(3, -256, 4, 256), weights(3, 256, 4, -256))
	second := perceptron("ab", weights(3, -256, 8, -256, 24, -256), weights(3, 256, 8, 256, 24, 256))
	is(t, "in one order", all(impl.TrainEpoch(blank("ab"), samples(one, two))), all(first, 2, impl.OK))
	is(t, "in the other order", all(impl.TrainEpoch(blank("ab"), samples(two, one))), all(second, 1, impl.OK))
	is(t, "one of them twice", all(impl.TrainEpoch(blank("ab"), samples(one, one))), all(second, 1, impl.OK))
	is(t, "the other one twice", all(impl.TrainEpoch(blank("ab"), samples(two, two))), all(blank("ab"), 0, impl.OK))
	is(t, "one of them twice, with the other one between", all(impl.TrainEpoch(blank("ab"), samples(one, two, one))), all(first, 2, impl.OK))
	is(t, "no samples", all(impl.TrainEpoch(plainPerceptron(), nil)), all(plainPerceptron(), 0, impl.OK))
	is(t, "an empty list", all(impl.TrainEpoch(blank("a"), samples())), all(blank("a"), 0, impl.OK))
	ahead := perceptron("ab", weights(3, 1000000), weights())
	twice := perceptron("ab", weights(3, 999488, 8, -512, 24, -512), weights(3, 512, 8, 512, 24, 512))
	is(t, "a step for each of two equal samples", all(impl.TrainEpoch(ahead, samples(one, one))), all(twice, 2, impl.OK))
}

// TestTrainEpochMany compares epochs with single steps in the order of the list, and with the list in another order.
func TestTrainEpochMany(t *testing.T) {
	s := source(331)
	differ := 0
	for range 300 {
		p := randomPerceptron(&s, row(0, 9, 300, 70000)[s.below(4)])
		list := randomSamples(&s, p, s.below(impl.MaxSamples+1), []func(*source, int64) []impl.Feat{fewFeats, randomFeats}[s.below(2)])
		want := epochFor(p, list)
		is(t, "an epoch", all(impl.TrainEpoch(p, list)), want)
		slices.Reverse(list)
		back := epochFor(p, list)
		is(t, "in another order", all(impl.TrainEpoch(p, list)), back)
		if fmt.Sprint(want) != fmt.Sprint(back) {
			differ++
		}
	}
	is(t, "the order often matters", differ > 100, true)
}

// TestTrain has two samples that three epochs tell apart.
func TestTrain(t *testing.T) {
	list := samples(sample("a", feats(0, 0, 0)), sample("b", otherCorner()))
	one := perceptron("ab", weights(4, -256, 23, -256, 24, -256), weights(4, 256, 23, 256, 24, 256))
	two := perceptron("ab", weights(0, 256, 8, 256, 4, -256, 23, -256), weights(0, -256, 8, -256, 4, 256, 23, 256))
	is(t, "no epochs", all(impl.Train(blank("ab"), list, 0)), all(blank("ab"), row(), impl.OK))
	is(t, "one epoch", all(impl.Train(blank("ab"), list, 1)), all(one, row(1), impl.OK))
	is(t, "two epochs", all(impl.Train(blank("ab"), list, 2)), all(two, row(1, 1), impl.OK))
	for epochs := int64(3); epochs <= impl.MaxEpochs; epochs++ {
		is(t, fmt.Sprint(epochs, " epochs"), all(impl.Train(blank("ab"), list, epochs)), all(two, row(1, 1, 0), impl.OK))
	}
	is(t, "trained already", all(impl.Train(two, list, 20)), all(two, row(0), impl.OK))
	is(t, "the mistakes before", all(impl.MistakesOf(blank("ab"), list)), all(row(1), impl.OK))
	is(t, "the mistakes behind one epoch", all(impl.MistakesOf(one, list)), all(row(0), impl.OK))
	is(t, "no mistakes behind two epochs", all(impl.MistakesOf(two, list)), all(row(), impl.OK))
	for epochs := int64(1); epochs <= impl.MaxEpochs; epochs++ {
		is(t, "no samples", all(impl.Train(plainPerceptron(), nil, epochs)), all(plainPerceptron(), row(0), impl.OK))
		is(t, "one label", all(impl.Train(blank("a"), samples(list[0], list[0]), epochs)), all(blank("a"), row(0), impl.OK))
	}
	is(t, "no samples and no epochs", all(impl.Train(plainPerceptron(), nil, 0)), all(plainPerceptron(), row(), impl.OK))
}

// TestTrainOfEqualFeatures has samples that can never be told apart, so that no epoch is the last one.
func TestTrainOfEqualFeatures(t *testing.T) {
	a, b, c := sample("a", corner()), sample("b", corner()), sample("c", corner())
	up, down := weights(3, 256, 8, 256, 24, 256), weights(3, -256, 8, -256, 24, -256)
	for epochs := int64(1); epochs <= impl.MaxEpochs; epochs++ {
		twos := slices.Repeat(row(2), int(epochs))
		is(t, "b and a", all(impl.Train(blank("ab"), samples(b, a), epochs)), all(blank("ab"), twos, impl.OK))
		is(t, "a and b", all(impl.Train(blank("ab"), samples(a, b), epochs)), all(perceptron("ab", down, up), append(row(1), twos[1:]...), impl.OK))
		after, changes, code := impl.Train(blank("abc"), samples(a, b, c), epochs)
		is(t, "three of them", all(after, changes, code), trainFor(blank("abc"), samples(a, b, c), epochs))
		is(t, "no epoch without changes", all(len(changes), slices.Min(changes) > 0), all(int(epochs), true))
		wrong, code := impl.MistakesOf(after, samples(a, b, c))
		is(t, "all but one are mistakes", all(len(wrong), code), all(2, impl.OK))
	}
}

// separable returns samples that are told apart by their directions.
func separable(s *source, labels string, count int64) []impl.Sample {
	var list []impl.Sample
	for range count {
		at := s.below(int64(len(labels)))
		list = append(list, sample(labels[at:at+1], level(1+int(s.below(5)), feat(s.below(256), s.below(256), 2*at))))
	}
	return list
}

// TestTrainMany compares trainings with single steps.
func TestTrainMany(t *testing.T) {
	s := source(332)
	early, late := 0, 0
	for range 300 {
		p, list := blank("abc"), separable(&s, "abc", s.below(impl.MaxSamples+1))
		if s.below(2) == 0 {
			p = randomPerceptron(&s, row(0, 9, 300, 70000)[s.below(4)])
			list = randomSamples(&s, p, s.below(impl.MaxSamples+1), fewFeats)
		}
		epochs := s.below(impl.MaxEpochs + 1)
		after, changes, code := impl.Train(p, list, epochs)
		is(t, "a training", all(after, changes, code), trainFor(p, list, epochs))
		is(t, "mistakes before", all(impl.MistakesOf(p, list)), all(mistakesFor(p, list), impl.OK))
		is(t, "mistakes behind", all(impl.MistakesOf(after, list)), all(mistakesFor(after, list), impl.OK))
		if len(changes) > 1 && changes[len(changes)-1] == 0 {
			early++
		}
		if len(changes) > 1 && changes[len(changes)-1] > 0 {
			late++
		}
	}
	is(t, "trainings of both sorts", all(early > 50, late > 50), all(true, true))
}

func TestMistakesOf(t *testing.T) {
	p := perceptron("abc", weights(3, 5), weights(4, 5), weights(8, 1, 23, 1))
	for name, c := range map[string]struct {
		list []impl.Sample
		want []int64
	}{
		"no samples":         {nil, nil},
		"a right one":        {samples(sample("a", corner())), nil},
		"another right one":  {samples(sample("b", otherCorner())), nil},
		"a wrong one":        {samples(sample("b", corner())), row(0)},
		"all wrong":          {samples(sample("c", otherCorner()), sample("a", otherCorner()), sample("b", corner())), row(0, 1, 2)},
		"the first one":      {samples(sample("c", otherCorner()), sample("a", corner())), row(0)},
		"the last one":       {samples(sample("a", corner()), sample("c", otherCorner())), row(1)},
		"the middle one":     {samples(sample("a", corner()), sample("c", otherCorner()), sample("b", otherCorner())), row(1)},
		"the same one twice": {samples(sample("c", otherCorner()), sample("a", corner()), sample("c", otherCorner())), row(0, 2)},
		"by the last label":  {samples(sample("c", feats(0, 0, 0)), sample("a", feats(0, 0, 0))), row(1)},
		"equal scores":       {samples(sample("c", feats(100, 100, 0)), sample("a", feats(100, 100, 0)), sample("b", feats(100, 100, 0))), row(0, 2)},
		"the most, all":      {slices.Repeat(samples(sample("c", otherCorner())), 40), []int64{0, 1, 2, 3, 4, 5, 6, 7, 8, 9, 10, 11, 12, 13, 14, 15, 16, 17, 18, 19, 20, 21, 22, 23, 24, 25, 26, 27, 28, 29, 30, 31, 32, 33, 34, 35, 36, 37, 38, 39}},
		"the most, the last": {append(slices.Repeat(samples(sample("b", otherCorner())), 39), sample("c", otherCorner())), row(39)},
	} {
		is(t, name, all(impl.MistakesOf(p, c.list)), all(c.want, impl.OK))
	}
	full := perceptron("ab", slices.Repeat(row(1000000), 25), slices.Repeat(row(-1000000), 25))
	is(t, "no weight is full without training", all(impl.MistakesOf(full, samples(sample("b", corner()), sample("a", otherCorner())))), all(row(0), impl.OK))
}

// trainings are calls with a perceptron, samples and a number of epochs.
func trainings(p impl.Perceptron, list []impl.Sample, epochs int64) []any {
	return all(all(impl.TrainEpoch(p, list)), all(impl.Train(p, list, epochs)), all(impl.MistakesOf(p, list)))
}

// refusedTrainings are the results of trainings with a code.
func refusedTrainings(code int64) []any {
	return all(all(impl.Perceptron{}, 0, code), all(impl.Perceptron{}, row(), code), all(row(), code))
}

// TestTrainingCounts has all numbers of samples and of epochs around their limits.
func TestTrainingCounts(t *testing.T) {
	one := sample("b", corner())
	after := perceptron("ab", weights(3, -256, 8, -256, 24, -256), weights(3, 256, 8, 256, 24, 256))
	for count := 1; count <= 40; count++ {
		list := slices.Repeat(samples(one), count)
		is(t, fmt.Sprint(count, " samples"), trainings(blank("ab"), list, 20), all(all(after, 1, impl.OK), all(after, row(1, 0), impl.OK), all(first(impl.MistakesOf(blank("ab"), list)), impl.OK)))
	}
	for _, count := range []int{41, 42, 80, 1000, 20000} {
		for _, epochs := range row(0, 1, 20) {
			is(t, fmt.Sprint(count, " samples"), trainings(blank("ab"), slices.Repeat(samples(one), count), epochs), refusedTrainings(impl.ErrRange))
		}
	}
	for _, epochs := range append(extremes(), -1, -2, -20, 21, 22, 40) {
		is(t, fmt.Sprint(epochs, " epochs"), all(impl.Train(blank("ab"), samples(one), epochs)), all(impl.Perceptron{}, row(), impl.ErrRange))
		is(t, fmt.Sprint(epochs, " epochs without samples"), all(impl.Train(blank("ab"), nil, epochs)), all(impl.Perceptron{}, row(), impl.ErrRange))
	}
}

func TestTrainingInvalid(t *testing.T) {
	good := sample("a", corner())
	for _, list := range [][]impl.Sample{nil, samples(good), samples(sample("~", nil)), slices.Repeat(samples(good), 41)} {
		for _, epochs := range row(0, 1, 21, -1) {
			refusedPerceptrons(t, "trainings", func(p impl.Perceptron) []any { return trainings(p, list, epochs) }, refusedTrainings(impl.ErrInvalid))
		}
	}
	for _, s := range samples(good, sample("q", corner()), sample("~", nil)) {
		refusedPerceptrons(t, "TrainOne", func(p impl.Perceptron) []any { return all(impl.TrainOne(p, s)) }, all(impl.Perceptron{}, false, impl.ErrInvalid))
	}
	for name, wrong := range wrongSamples() {
		is(t, name, all(impl.TrainOne(blank("ab"), wrong)), all(impl.Perceptron{}, false, impl.ErrInvalid))
		for _, list := range [][]impl.Sample{samples(wrong), samples(wrong, good), samples(good, wrong), samples(good, wrong, good), append(slices.Repeat(samples(good), 39), wrong), append(slices.Repeat(samples(good), 40), wrong)} {
			is(t, name, trainings(blank("ab"), list, 1), refusedTrainings(impl.ErrInvalid))
			is(t, name+", no epochs", all(impl.Train(blank("ab"), list, 0)), all(impl.Perceptron{}, row(), impl.ErrInvalid))
			is(t, name+", too many epochs", all(impl.Train(blank("ab"), list, 21)), all(impl.Perceptron{}, row(), impl.ErrInvalid))
		}
	}
}

// TestTrainingNotFound has labels that the perceptron has not.
func TestTrainingNotFound(t *testing.T) {
	for _, label := range eachOf(labelBytes) {
		want := all(impl.Perceptron{}, false, impl.ErrNotFound)
		if label == "+" || label == "a" || label == "m" {
			want = oneFor(plainPerceptron(), sample(label, otherCorner()))
		}
		is(t, "TrainOne of "+label, all(impl.TrainOne(plainPerceptron(), sample(label, otherCorner()))), want)
	}
	good, other := sample("a", corner()), sample("c", corner())
	for at := range 41 {
		list := slices.Repeat(samples(good), 41)
		list[at] = other
		for _, epochs := range row(0, 1, 20, 21, -1) {
			is(t, fmt.Sprint("at ", at, " of too many"), trainings(blank("ab"), list, epochs), refusedTrainings(impl.ErrNotFound))
			is(t, fmt.Sprint("the last one of ", at+1), trainings(blank("ab"), list[:at+1], epochs), refusedTrainings(impl.ErrNotFound))
		}
	}
}

// faulty returns the arguments of a call with some faults; the number of each fault is its place in the document's order.
func faulty(has func(fault int) bool) (impl.Perceptron, []impl.Sample, int64) {
	p, epochs := perceptron("ab", weights(3, 1000000), weights(3, 999800)), int64(3)
	list := slices.Repeat(samples(sample("a", corner())), 5)
	if has(4) {
		epochs = 21
	}
	if has(3) {
		list = slices.Repeat(list, 9)
	}
	if has(0) {
		p.Weights[1][24] = impl.MaxWeight + 1
	}
	if has(1) {
		list[len(list)-1].Feats = feats(0, 0, 8)
	}
	if has(2) {
		list[len(list)-2].Label = "c"
	}
	// The first sample makes a weight too great, before any other fault is reached.
	if has(5) {
		list[0].Label = "b"
	}
	return p, list, epochs
}

// TestTrainingErrors has every set of faults, of which the first one in the document's order is returned.
func TestTrainingErrors(t *testing.T) {
	codes := row(impl.ErrInvalid, impl.ErrInvalid, impl.ErrNotFound, impl.ErrRange, impl.ErrRange, impl.ErrFull)
	for set := range 1 << len(codes) {
		has := func(fault int) bool { return set>>fault&1 == 1 }
		codeOf := func(faults ...int) int64 {
			for _, fault := range faults {
				if has(fault) {
					return codes[fault]
				}
			}
			return impl.OK
		}
		p, list, epochs := faulty(has)
		name := fmt.Sprintf("faults %06b", set)
		_, _, epochCode := impl.TrainEpoch(p, list)
		_, _, code := impl.Train(p, list, epochs)
		_, mistakesCode := impl.MistakesOf(p, list)
		is(t, name, all(epochCode, code, mistakesCode), all(codeOf(0, 1, 2, 3, 5), codeOf(0, 1, 2, 3, 4, 5), codeOf(0, 1, 2, 3)))
		got, refused := trainings(p, list, epochs), refusedTrainings(code)
		if code != impl.OK {
			is(t, name+", zero values", got[1], refused[1])
		}
		if epochCode != impl.OK {
			is(t, name+", zero values of an epoch", got[0], refusedTrainings(epochCode)[0])
		}
		if mistakesCode != impl.OK {
			is(t, name+", zero values of mistakes", got[2], refusedTrainings(mistakesCode)[2])
		}
	}
}

// TestTrainOneErrors has every set of faults of a single step.
func TestTrainOneErrors(t *testing.T) {
	wrong, right := perceptron("ab", weights(3, 1000001), weights(3, 999800)), perceptron("ab", weights(3, 1000000), weights(3, 999800))
	for name, c := range map[string]struct {
		p    impl.Perceptron
		s    impl.Sample
		code int64
	}{
		"all":                           {wrong, sample("c", feats(0, 0, 8)), impl.ErrInvalid},
		"the perceptron and the label":  {wrong, sample("c", corner()), impl.ErrInvalid},
		"the features and the label":    {right, sample("c", feats(0, 0, 8)), impl.ErrInvalid},
		"the perceptron and full":       {wrong, sample("b", corner()), impl.ErrInvalid},
		"the features, full before":     {right, sample("b", feats(0, 0, 8)), impl.ErrInvalid},
		"no label and full":             {right, sample("bb", corner()), impl.ErrInvalid},
		"another label, full otherwise": {right, sample("c", corner()), impl.ErrNotFound},
		"full":                          {right, sample("b", corner()), impl.ErrFull},
	} {
		is(t, name, all(impl.TrainOne(c.p, c.s)), all(impl.Perceptron{}, false, c.code))
	}
	is(t, "no fault", all(impl.TrainOne(right, sample("a", corner()))), all(right, false, impl.OK))
}
