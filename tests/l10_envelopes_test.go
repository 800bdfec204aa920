package tests

import (
	"slices"
	"testing"

	"loop.example/g00918/impl"
)

func TestLimitOfLists(t *testing.T) {
	is(t, "the limit", int64(impl.MaxLists), 40)
}

func TestEnvelopeOf(t *testing.T) {
	high := level(impl.MaxSeq, feat(255, 255, 7))
	for name, c := range map[string]struct {
		b       []impl.Feat
		n, band int64
		want    impl.Envelope
	}{
		"one":                        {feats(7, 8, 5), 1, 0, envelope(row(7), row(7), row(8), row(8))},
		"one, with a wide band":      {feats(7, 8, 5), 1, impl.MaxSeq, envelope(row(7), row(7), row(8), row(8))},
		"only the own index":         {feats(7, 8, 5, 1, 9, 2, 4, 3, 0), 3, 0, envelope(row(7, 1, 4), row(7, 1, 4), row(8, 9, 3), row(8, 9, 3))},
		"the neighbours":             {line(4, 9, 5, 1), 4, 1, envelope(row(4, 4, 1, 1), row(9, 9, 9, 5), row(0, 0, 0, 0), row(0, 0, 0, 0))},
		"two on each side":           {line(4, 9, 5, 1, 7), 5, 2, envelope(row(4, 1, 1, 1, 1), row(9, 9, 9, 9, 7), make([]int64, 5), make([]int64, 5))},
		"one less than both ends":    {line(4, 9, 5, 1), 4, 2, envelope(row(4, 1, 1, 1), row(9, 9, 9, 9), make([]int64, 4), make([]int64, 4))},
		"from end to end":            {line(4, 9, 5, 1), 4, 3, envelope(row(1, 1, 1, 1), row(9, 9, 9, 9), make([]int64, 4), make([]int64, 4))},
		"over both ends":             {line(4, 9, 5, 1), 4, 4, envelope(row(1, 1, 1, 1), row(9, 9, 9, 9), make([]int64, 4), make([]int64, 4))},
		"far over both ends":         {line(4, 9, 5, 1), 4, impl.MaxSeq, envelope(row(1, 1, 1, 1), row(9, 9, 9, 9), make([]int64, 4), make([]int64, 4))},
		"rising":                     {line(1, 2, 3, 4), 4, 1, envelope(row(1, 1, 2, 3), row(2, 3, 4, 4), make([]int64, 4), make([]int64, 4))},
		"falling":                    {line(4, 3, 2, 1), 4, 1, envelope(row(3, 2, 1, 1), row(4, 4, 3, 2), make([]int64, 4), make([]int64, 4))},
		"equal ones":                 {line(6, 6, 6, 6), 4, 1, levelEnvelope(4, 6, 6, 0, 0)},
		"for more":                   {line(4, 9), 4, 2, envelope(row(4, 4, 4, 9), row(9, 9, 9, 9), make([]int64, 4), make([]int64, 4))},
		"for more, with more room":   {line(4, 9), 4, 3, envelope(row(4, 4, 4, 4), row(9, 9, 9, 9), make([]int64, 4), make([]int64, 4))},
		"for less":                   {line(4, 9, 5, 1), 2, 2, envelope(row(4, 1), row(9, 9), row(0, 0), row(0, 0))},
		"for less, with more room":   {line(4, 9, 5, 1), 2, 3, envelope(row(1, 1), row(9, 9), row(0, 0), row(0, 0))},
		"for one":                    {line(4, 9, 5, 1), 1, 3, envelope(row(1), row(9), row(0), row(0))},
		"of one for more":            {feats(7, 8, 5), 3, 2, levelEnvelope(3, 7, 7, 8, 8)},
		"of one for the most":        {feats(0, 255, 5), impl.MaxSeq, 71, levelEnvelope(72, 0, 0, 255, 255)},
		"of the most for one":        {append(slices.Clone(high[1:]), feat(0, 1, 0)), 1, 71, envelope(row(0), row(255), row(1), row(255))},
		"of the most for the most":   {high, impl.MaxSeq, 0, levelEnvelope(72, 255, 255, 255, 255)},
		"of the most, with all room": {append(slices.Clone(high[1:]), feat(0, 0, 0)), impl.MaxSeq, impl.MaxSeq, levelEnvelope(72, 0, 255, 0, 255)},
		"X and Y apart":              {feats(1, 9, 0, 5, 5, 0, 9, 1, 0), 3, 1, envelope(row(1, 1, 5), row(5, 9, 9), row(5, 1, 1), row(9, 9, 5))},
		"directions do not count":    {feats(1, 2, 0, 3, 4, 7), 2, 0, envelope(row(1, 3), row(1, 3), row(2, 4), row(2, 4))},
	} {
		e, code := impl.EnvelopeOf(c.b, c.n, c.band)
		is(t, name, all(e, code, impl.ValidEnvelope(e)), all(c.want, impl.OK, true))
	}
}

// TestEnvelopeOfAnyList compares all numbers with those that are found one by one.
func TestEnvelopeOfAnyList(t *testing.T) {
	s := source(201)
	for _, b := range allSmallSeqs(4) {
		checkEnvelopes(t, b, 7)
	}
	for _, p := range append(longSeqs(&s, 10), smallSeqs(&s, 20, 9)...) {
		checkEnvelopes(t, p.b, impl.MaxSeq)
	}
}

// checkEnvelopes checks the envelopes of a list for up to most elements, with some bands for many.
func checkEnvelopes(t *testing.T, b []impl.Feat, most int64) {
	t.Helper()
	s := source(len(b))
	for n := int64(1); n <= most; n += 1 + s.below(1+most/9) {
		least := gap(n, int64(len(b)))
		for band := least; band <= most; band += 1 + s.below(1+most/6) {
			e, code := impl.EnvelopeOf(b, n, band)
			is(t, "any envelope", all(e, code, impl.ValidEnvelope(e)), all(envelopeFor(b, n, band), impl.OK, true))
		}
		e, code := impl.EnvelopeOf(b, n, impl.MaxSeq)
		is(t, "with all room", all(e, code), all(envelopeFor(b, n, impl.MaxSeq), impl.OK))
	}
}

func TestLimitsOfEnvelopeOf(t *testing.T) {
	refused := all(impl.Envelope{}, impl.ErrRange)
	s := source(202)
	for _, length := range row(1, 2, 3, 35, 71, 72) {
		b := randomFeats(&s, length)
		for _, n := range append(extremes(), 0, -1, -length, impl.MaxSeq+1, impl.MaxSeq+2, 500) {
			for _, band := range append(extremes(), 0, 1, length, gap(min(max(n, -99), 99), length), impl.MaxSeq) {
				is(t, "n is "+impl.Decimal(n), all(impl.EnvelopeOf(b, n, band)), refused)
			}
		}
		for _, n := range row(1, 2, length, max(length-1, 1), min(length+1, 72), 71, 72) {
			least := gap(n, length)
			for _, band := range append(extremes(), least-1, -1, -least, -least-1, impl.MaxSeq+1, impl.MaxSeq+2) {
				// A band that is the negative of 0 is right.
				if band < least || band > impl.MaxSeq {
					is(t, "band is "+impl.Decimal(band), all(impl.EnvelopeOf(b, n, band)), refused)
				}
			}
			for _, band := range row(least, least+1, impl.MaxSeq-1, impl.MaxSeq) {
				is(t, "right ones", all(impl.EnvelopeOf(b, n, band)), all(envelopeFor(b, n, band), impl.OK))
			}
		}
	}
}

func TestEnvelopeOfInvalid(t *testing.T) {
	for reason, b := range wrongSeqs() {
		for _, n := range row(int64(len(b)), 1, 0, -1, 72, 73, leastInt, greatestInt) {
			for _, band := range row(0, 72, 73, -1, leastInt, greatestInt) {
				is(t, reason, all(impl.EnvelopeOf(b, n, band)), all(impl.Envelope{}, impl.ErrInvalid))
			}
		}
	}
}

func TestValidEnvelope(t *testing.T) {
	for name, e := range map[string]impl.Envelope{
		"the plain one":          plainEnvelope(),
		"of one":                 envelope(row(1), row(2), row(3), row(4)),
		"of zeros":               levelEnvelope(1, 0, 0, 0, 0),
		"of the greatest ones":   levelEnvelope(1, 255, 255, 255, 255),
		"from end to end":        levelEnvelope(1, 0, 255, 0, 255),
		"of the most":            levelEnvelope(impl.MaxSeq, 0, 255, 0, 255),
		"of one less":            levelEnvelope(impl.MaxSeq-1, 0, 0, 255, 255),
		"low and high are equal": envelope(row(1, 2, 3), row(1, 2, 3), row(4, 5, 6), row(4, 5, 6)),
		"X above Y":              levelEnvelope(2, 200, 210, 1, 2),
		"Y above X":              levelEnvelope(2, 1, 2, 200, 210),
		"neighbours far apart":   envelope(row(0, 255), row(0, 255), row(255, 0), row(255, 0)),
	} {
		is(t, name, impl.ValidEnvelope(e), true)
	}
	for count := 1; count <= impl.MaxSeq+3; count++ {
		is(t, "so many", impl.ValidEnvelope(levelEnvelope(count, 1, 2, 3, 4)), count <= impl.MaxSeq)
	}
	for reason, e := range wrongEnvelopes() {
		is(t, reason, impl.ValidEnvelope(e), false)
	}
}

// TestValidEnvelopeOfAnyNumbers has all pairs of a low and a high number near the limits and near each other.
func TestValidEnvelopeOfAnyNumbers(t *testing.T) {
	numbers := row(-2, -1, 0, 1, 2, 127, 128, 129, 253, 254, 255, 256, 257)
	for _, low := range numbers {
		for _, high := range numbers {
			right := 0 <= low && low <= high && high <= 255
			for at := range 3 {
				x, y := levelEnvelope(3, 0, 255, 0, 255), levelEnvelope(3, 0, 255, 0, 255)
				x.LowX[at], x.HighX[at] = low, high
				y.LowY[at], y.HighY[at] = low, high
				is(t, "X from "+impl.Decimal(low)+" to "+impl.Decimal(high), impl.ValidEnvelope(x), right)
				is(t, "Y from "+impl.Decimal(low)+" to "+impl.Decimal(high), impl.ValidEnvelope(y), right)
			}
		}
	}
}

// TestValidEnvelopeOfAnyLengths has lists of all lengths that are near to each other.
func TestValidEnvelopeOfAnyLengths(t *testing.T) {
	for _, base := range []int{0, 1, 2, 70, 71} {
		for k := range 81 {
			lengths := []int{base + k%3, base + k/3%3, base + k/9%3, base + k/27}
			e := envelope(make([]int64, lengths[0]), make([]int64, lengths[1]), make([]int64, lengths[2]), make([]int64, lengths[3]))
			right := slices.Min(lengths) == slices.Max(lengths) && 1 <= lengths[0] && lengths[0] <= impl.MaxSeq
			is(t, "lengths", all(lengths, impl.ValidEnvelope(e)), all(lengths, right))
		}
	}
}

func TestOutsideOf(t *testing.T) {
	e := envelope(row(10, 20), row(15, 30), row(5, 50), row(5, 250))
	for name, c := range map[string]struct {
		a    []impl.Feat
		e    impl.Envelope
		want int64
	}{
		"within":                   {feats(12, 5, 0, 25, 100, 0), e, 0},
		"at the low ones":          {feats(10, 5, 0, 20, 50, 0), e, 0},
		"at the high ones":         {feats(15, 5, 0, 30, 250, 0), e, 0},
		"X is one below":           {feats(9, 5, 0, 20, 50, 0), e, 1},
		"X is one above":           {feats(16, 5, 0, 20, 50, 0), e, 1},
		"Y is one below":           {feats(10, 4, 0, 20, 50, 0), e, 1},
		"Y is one above":           {feats(10, 6, 0, 20, 50, 0), e, 1},
		"the last X is below":      {feats(10, 5, 0, 17, 50, 0), e, 3},
		"the last X is above":      {feats(10, 5, 0, 37, 50, 0), e, 7},
		"the last Y is below":      {feats(10, 5, 0, 20, 41, 0), e, 9},
		"the last Y is above":      {feats(10, 5, 0, 20, 255, 0), e, 5},
		"below and above":          {feats(3, 8, 0, 50, 30, 0), e, 7 + 3 + 20 + 20},
		"above and below":          {feats(20, 0, 0, 0, 255, 0), e, 5 + 5 + 20 + 5},
		"all below":                {feats(0, 0, 0, 0, 0, 0), e, 10 + 5 + 20 + 50},
		"all above":                {feats(255, 255, 0, 255, 255, 0), e, 240 + 250 + 225 + 5},
		"directions do not count":  {feats(12, 5, 7, 25, 100, 4), e, 0},
		"in the other order":       {feats(25, 100, 0, 12, 5, 0), e, 10 + 95 + 8 + 45},
		"one, from end to end":     {feats(255, 0, 0), levelEnvelope(1, 0, 0, 255, 255), 510},
		"one, against it":          {feats(0, 255, 0), levelEnvelope(1, 255, 255, 0, 0), 510},
		"one within all":           {feats(0, 255, 0), levelEnvelope(1, 0, 255, 0, 255), 0},
		"the most within all":      {level(72, feat(255, 0, 3)), levelEnvelope(72, 0, 255, 0, 255), 0},
		"the most, from the ends":  {level(72, feat(255, 0, 3)), levelEnvelope(72, 0, 0, 255, 255), 72 * 510},
		"only the last one of all": {append(level(71, feat(3, 3, 3)), feat(3, 4, 3)), levelEnvelope(72, 3, 3, 3, 3), 1},
	} {
		is(t, name, all(impl.OutsideOf(c.a, c.e)), all(c.want, impl.OK))
	}
	for n := range int64(256) {
		x, y := levelEnvelope(1, 100, 120, 0, 255), levelEnvelope(1, 0, 255, 100, 120)
		is(t, "X", all(impl.OutsideOf(feats(n, 7, 0), x)), all(stepsInto(n, 100, 120), impl.OK))
		is(t, "Y", all(impl.OutsideOf(feats(7, n, 0), y)), all(stepsInto(n, 100, 120), impl.OK))
	}
}

func TestOutsideOfAnyEnvelope(t *testing.T) {
	s := source(203)
	for range 500 {
		n := 1 + s.below(impl.MaxSeq)
		a := randomFeats(&s, n)
		var e impl.Envelope
		for range n {
			x, y := row(s.below(256), s.below(256)), row(s.below(256), s.below(256))
			e.LowX, e.HighX = append(e.LowX, slices.Min(x)), append(e.HighX, slices.Max(x))
			e.LowY, e.HighY = append(e.LowY, slices.Min(y)), append(e.HighY, slices.Max(y))
		}
		is(t, "any envelope", all(impl.OutsideOf(a, e)), all(outsideFor(a, e), impl.OK))
	}
}

func TestOutsideOfOtherLengths(t *testing.T) {
	for n := 1; n <= impl.MaxSeq; n++ {
		e := levelEnvelope(n, 3, 3, 4, 4)
		for _, count := range []int{n - 1, n, n + 1, 1, 72} {
			a := level(count, feat(4, 6, 1))
			switch {
			case count == 0 || count > impl.MaxSeq:
				is(t, "no sequence", all(impl.OutsideOf(a, e)), all(0, impl.ErrInvalid))
			case count == n:
				is(t, "as many", all(impl.OutsideOf(a, e)), all(3*n, impl.OK))
			default:
				is(t, "another length", all(impl.OutsideOf(a, e)), all(0, impl.ErrRange))
			}
		}
	}
}

func TestOutsideOfInvalid(t *testing.T) {
	refused := all(0, impl.ErrInvalid)
	for reason, e := range wrongEnvelopes() {
		for _, a := range seqs(line(1), line(1, 2), line(1, 2, 3), line(1, 2, 3, 4), rising(), line(-1), nil) {
			is(t, "e: "+reason, all(impl.OutsideOf(a, e)), refused)
		}
	}
	for reason, a := range wrongSeqs() {
		for _, e := range []impl.Envelope{plainEnvelope(), levelEnvelope(1, 1, 2, 3, 4), levelEnvelope(72, 0, 255, 0, 255), {}} {
			is(t, "a: "+reason, all(impl.OutsideOf(a, e)), refused)
		}
	}
}
