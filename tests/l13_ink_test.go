package tests

import (
	"fmt"
	"slices"
	"testing"

	"loop.example/g00918/impl"
)

// bar is a stroke whose features, with 2 points, are barFeats if it is alone.
func bar() impl.Ink { return inkOf(path(10, 10, 30, 10)) }

func barFeats() []impl.Feat { return feats(0, 127, 0, 255, 127, 0) }

// barWith returns features that cost so much for those of a bar.
func barWith(cost int64) []impl.Feat { return feats(0, 127, 0, 255-cost, 127, 0) }

// barStore returns a store whose templates cost so much for a bar; the bytes of labels are their labels.
func barStore(band int64, labels string, costs ...int64) impl.Store {
	s := store(band)
	for at, cost := range costs {
		s.Templates = append(s.Templates, template(labels[at:at+1], barWith(cost)))
	}
	return s
}

func TestHypsOf(t *testing.T) {
	far := line(0, 0, 0, 0)
	for name, c := range map[string]struct {
		s    impl.Store
		most int64
		want []impl.Hyp
	}{
		"one":                                     {barStore(0, "a", 0), 3, hyps("a", 0)},
		"one with a cost":                         {barStore(0, "a", 7), 3, hyps("a", 7)},
		"in the order of costs":                   {barStore(0, "abc", 9, 5, 7), 3, hyps("bca", 5, 7, 9)},
		"equal costs":                             {barStore(0, "cab", 5, 5, 5), 3, hyps("abc", 5, 5, 5)},
		"equal costs of signs":                    {barStore(0, "a=0(", 5, 5, 5, 5), 8, hyps("(0=a", 5, 5, 5, 5)},
		"equal costs behind a lesser one":         {barStore(0, "cabz", 5, 5, 5, 4), 8, hyps("zabc", 4, 5, 5, 5)},
		"several of one label, the first one":     {barStore(0, "aaa", 5, 7, 9), 3, hyps("a", 5)},
		"several of one label, the middle one":    {barStore(0, "aaa", 7, 5, 9), 3, hyps("a", 5)},
		"several of one label, the last one":      {barStore(0, "aaa", 9, 7, 5), 3, hyps("a", 5)},
		"several of two labels":                   {barStore(0, "ababab", 9, 8, 7, 6, 5, 4), 3, hyps("ba", 4, 5)},
		"several of two labels, in turn":          {barStore(0, "ababab", 4, 9, 5, 3, 6, 8), 3, hyps("ba", 3, 4)},
		"two labels with equal least costs":       {barStore(0, "bbaa", 9, 5, 5, 7), 3, hyps("ab", 5, 5)},
		"more labels than most":                   {barStore(0, "abcd", 9, 5, 7, 6), 3, hyps("bdc", 5, 6, 7)},
		"as many labels as most":                  {barStore(0, "abcd", 9, 5, 7, 6), 4, hyps("bdca", 5, 6, 7, 9)},
		"fewer labels than most":                  {barStore(0, "abcd", 9, 5, 7, 6), 5, hyps("bdca", 5, 6, 7, 9)},
		"only the best one":                       {barStore(0, "abcd", 9, 5, 7, 6), 1, hyps("b", 5)},
		"the best one of equal costs":             {barStore(0, "cba", 5, 5, 5), 1, hyps("a", 5)},
		"templates of one label are one":          {barStore(0, "aaaab", 1, 2, 3, 4, 5), 2, hyps("ab", 1, 5)},
		"more labels than the most":               {barStore(0, "ijklabcdefgh", 3, 3, 3, 3, 1, 1, 1, 1, 2, 2, 2, 2), 8, hyps("abcdefgh", 1, 1, 1, 1, 2, 2, 2, 2)},
		"the first one does not take part":        {labelled(1, "abc", far, barWith(5), barWith(6)), 3, hyps("bc", 5, 6)},
		"the middle one does not":                 {labelled(1, "abc", barWith(5), far, barWith(6)), 3, hyps("ac", 5, 6)},
		"the last one does not":                   {labelled(1, "abc", barWith(5), barWith(6), far), 3, hyps("ab", 5, 6)},
		"one of a label does not":                 {labelled(1, "aab", far, barWith(7), barWith(6)), 3, hyps("ba", 6, 7)},
		"only the last one takes part":            {labelled(1, "abc", far, far, barWith(6)), 3, hyps("c", 6)},
		"none takes part":                         {labelled(1, "abc", far, far, far), 3, nil},
		"none takes part, with the most":          {labelled(1, "abc", far, far, far), 8, nil},
		"longer by the band":                      {labelled(2, "ab", slices.Concat(barWith(7), barWith(7)[1:]), slices.Repeat(barWith(0), 2)), 3, hyps("ab", 14, 255)},
		"longer by more than the band":            {labelled(1, "ab", slices.Concat(barWith(7), barWith(7)[1:]), slices.Repeat(barWith(0), 2)), 3, hyps("a", 14)},
		"an empty store":                          {store(2), 3, nil},
		"an empty store, with the most":           {store(72), 8, nil},
		"a template with one feature, in a band":  {labelled(1, "a", feats(0, 127, 0)), 3, hyps("a", 255)},
		"a template with one feature, in no band": {labelled(0, "a", feats(0, 127, 0)), 3, nil},
	} {
		is(t, name, all(impl.HypsOf(c.s, bar(), setting(2, c.most, 20))), all(c.want, impl.OK))
		is(t, name+", without strokes", all(impl.HypsOf(c.s, ink(), setting(2, c.most, 20))), all([]impl.Hyp{}, impl.ErrState))
	}
}

// TestHypsOfPens has the same place in up to as many strokes as there may be, so that only Pen and the number of features differ.
func TestHypsOfPens(t *testing.T) {
	for count := 1; count <= impl.MaxStrokes; count++ {
		i := inkOf(slices.Repeat([]impl.Stroke{path(7, 7)}, count)...)
		list := level(2*count, feat(127, 127, 0))
		s := labelled(0, "ba", list, append(slices.Clone(list[1:]), feat(130, 127, 0)))
		for _, pen := range row(0, 1, 20, 999, 1000) {
			lift := pen * int64(count-1)
			is(t, fmt.Sprint(count, " strokes with Pen ", pen), all(impl.HypsOf(s, i, setting(2, 8, pen))), all(hyps("ba", lift, lift+3), impl.OK))
		}
	}
}

// TestHypsOfGreatCosts has the most strokes, the greatest Pen, and features most of which are as far apart as they may be.
func TestHypsOfGreatCosts(t *testing.T) {
	strokes := append(slices.Repeat([]impl.Stroke{path(0, 0)}, 15), path(4095, 4095))
	i := inkOf(strokes...)
	s := labelled(8, "ab", level(72, feat(255, 255, 4)), level(56, feat(255, 255, 4)))
	// Of the 64 features, the last 4 are not at the left upper corner, but at the place of the template. They are matched
	// with what is left of it when each of the others has been matched once.
	want := hyps("ba", 60*574+4*64+15000, 60*574+12*64+15000)
	is(t, "great costs", all(impl.HypsOf(s, i, setting(4, 8, 1000))), all(want, impl.OK))
	is(t, "the same by all costs", hypsFor(s, i, setting(4, 8, 1000)), want)
	is(t, "valid", impl.ValidHyps(want), true)
}

// TestHypsOfFull has each number of strokes with each number of points; they are full from the first product beyond MaxSeq on.
func TestHypsOfFull(t *testing.T) {
	exact := 0
	for count := range int64(impl.MaxStrokes) + 1 {
		i := inkWith(count, 3)
		for points := int64(2); points <= impl.MaxFeats; points++ {
			for _, s := range []impl.Store{store(0), store(72, template("a", line(5)))} {
				got, code := impl.HypsOf(s, i, setting(points, 3, 20))
				want := int64(impl.OK)
				switch features := count * points; {
				case count == 0:
					want = impl.ErrState
				case features > 72:
					want = impl.ErrFull
				case features == 72:
					exact++
				}
				name := fmt.Sprint(count, " strokes with ", points, " points")
				is(t, name, code, want)
				is(t, name+": hypotheses", len(got) > 0, code == impl.OK && len(s.Templates) > 0)
			}
		}
	}
	is(t, "72 features, in several ways", exact, 2*len(row(24, 18, 12, 9, 8, 6)))
}

// TestHypsOfManyInks compares hypotheses with the least costs of all templates.
func TestHypsOfManyInks(t *testing.T) {
	s := source(380)
	cut, alone, none := 0, 0, 0
	for _, i := range manyInks(&s) {
		strokes := int64(len(i.Strokes))
		for range 2 {
			points, pen := 2+s.below(23), row(0, 1, 20, 1000)[s.below(4)]
			if strokes*points > impl.MaxSeq {
				points = 72 / strokes
			}
			made := storeNear(&s, i, points)
			every := hypsFor(made, i, setting(points, int64(len(labelBytes)), pen))
			for most := int64(1); most <= impl.MaxHyps; most++ {
				want := every[:min(most, int64(len(every)))]
				is(t, "any ink", all(impl.HypsOf(made, i, setting(points, most, pen))), all(want, impl.OK))
			}
			switch {
			case len(every) == 0:
				none++
			case len(every) == 1:
				alone++
			case len(every) > impl.MaxHyps:
				cut++
			}
		}
	}
	is(t, "all sorts", all(cut > 20, alone > 20, none > 20), all(true, true, true))
}

// storeNear returns a store of templates that are like the features of ink, some of them shorter or longer.
func storeNear(s *source, i impl.Ink, points int64) impl.Store {
	made := store(row(0, 1, 2, 72)[s.below(4)])
	labels := labelBytes[s.below(30):]
	if s.below(3) == 0 {
		labels = labels[:1+s.below(4)]
	}
	for range s.below(18) {
		list := slices.Clone(featsIn(i, points))
		for range s.below(3) {
			at := s.below(int64(len(list)))
			list[at].X, list[at].D = s.below(256), s.below(8)
		}
		switch s.below(4) {
		case 0:
			list = list[:1+s.below(int64(len(list)))]
		case 1:
			list = append(list, list[0])[:min(len(list)+1, impl.MaxSeq)]
		}
		at := s.below(int64(len(labels)))
		made.Templates = append(made.Templates, template(labels[at:at+1], list))
	}
	return made
}

// TestHypsOfPoints has settings that differ in Points only; a template belongs to each of them.
func TestHypsOfPoints(t *testing.T) {
	i := inkOf(path(10, 50, 40, 10, 70, 50), path(20, 30, 60, 30))
	s := store(0)
	for points := int64(2); points <= impl.MaxFeats; points++ {
		s.Templates = append(s.Templates, template(labelBytes[points:points+1], featsIn(i, points)))
	}
	for points := int64(2); points <= impl.MaxFeats; points++ {
		want := all(hyps(labelBytes[points:points+1], 13), impl.OK)
		is(t, fmt.Sprint(points, " points"), all(impl.HypsOf(s, i, setting(points, 8, 13))), want)
	}
}

// TestHypsOfInvalid has faults of one argument, with the others right, and with faults that would be found later.
func TestHypsOfInvalid(t *testing.T) {
	invalid := all([]impl.Hyp{}, impl.ErrInvalid)
	good, with := plainStore(), setting(2, 3, 20)
	inks := []impl.Ink{bar(), ink(), inkWith(16, 60)}
	for _, i := range inks {
		refusedStores(t, "a store", func(s impl.Store) []any { return all(impl.HypsOf(s, i, with)) }, invalid)
		for name, t2 := range wrongSettings() {
			is(t, name, all(impl.HypsOf(good, i, t2)), invalid)
			is(t, name+", an empty store", all(impl.HypsOf(store(0), i, t2)), invalid)
			is(t, name+", a wrong store", all(impl.HypsOf(store(-1), i, t2)), invalid)
		}
	}
	for name, i := range wrongInks() {
		is(t, name, all(impl.HypsOf(good, i, with)), invalid)
		is(t, name+", an empty store", all(impl.HypsOf(store(0), i, with)), invalid)
		is(t, name+", a wrong store", all(impl.HypsOf(store(73), i, with)), invalid)
		is(t, name+", a wrong setting", all(impl.HypsOf(good, i, setting(1, 3, 20))), invalid)
		is(t, name+", too many points", all(impl.HypsOf(good, i, setting(24, 8, 1000))), invalid)
		is(t, name+", all wrong", all(impl.HypsOf(store(-1), i, setting(0, 0, 0))), invalid)
	}
	is(t, "no strokes", all(impl.HypsOf(good, ink(), setting(24, 8, 1000))), all([]impl.Hyp{}, impl.ErrState))
	is(t, "too many features", all(impl.HypsOf(good, inkWith(4, 3), setting(24, 8, 1000))), all([]impl.Hyp{}, impl.ErrFull))
	is(t, "as many as there may be", all(impl.HypsOf(good, inkWith(3, 3), setting(24, 8, 1000))), all([]impl.Hyp{}, impl.OK))
}
