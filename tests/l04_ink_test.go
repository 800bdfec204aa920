package tests

import (
	"strconv"
	"strings"
	"testing"

	"loop.example/g00918/impl"
)

const greatestPredicted = impl.MaxResidual / 8

func TestResidualsOf(t *testing.T) {
	top := int64(greatestPredicted)
	cases := []struct{ list, residuals []int64 }{
		{nil, nil}, {[]int64{}, []int64{}},
		{[]int64{7}, []int64{7}}, {[]int64{-7}, []int64{-7}}, {[]int64{0}, []int64{0}},
		{[]int64{7, 5}, []int64{7, -2}}, {[]int64{-3, 4}, []int64{-3, 7}},
		{[]int64{5, 8, 12, 12}, []int64{5, 3, 1, -4}},
		{[]int64{4, 4, 4, 4}, []int64{4, 0, 0, 0}},
		{[]int64{10, 7, 4, 1, -2}, []int64{10, -3, 0, 0, 0}},
		{[]int64{1, 4, 9, 16, 25}, []int64{1, 3, 2, 2, 2}},
		{[]int64{top}, []int64{top}}, {[]int64{-top}, []int64{-top}},
		{[]int64{top, -top}, []int64{top, -2 * top}},
		{[]int64{-top, top, -top, top}, []int64{-top, 2 * top, -4 * top, 4 * top}},
	}
	for _, c := range cases {
		is(t, "residuals", all(impl.ResidualsOf(c.list)), all(c.residuals, impl.OK))
		is(t, "from them", all(impl.FromResiduals(c.residuals)), all(c.list, impl.OK))
	}
}

// TestResidualsOfManyNumbers has all lengths, equal steps, and numbers as different as they may be.
func TestResidualsOfManyNumbers(t *testing.T) {
	s := source(30)
	for length := range int64(impl.MaxPoints + 1) {
		for range 10 {
			var even, mixed []int64
			begin, step, size := s.below(20000)-10000, s.below(200)-100, int64(2)<<s.below(27)
			for k := range length {
				even = append(even, begin+k*step)
				mixed = append(mixed, max(-greatestPredicted, min(greatestPredicted, s.below(size)-s.below(size))))
			}
			for _, list := range [][]int64{even, mixed} {
				residuals, code := impl.ResidualsOf(list)
				is(t, "residuals", all(residuals, code), all(differences(list), impl.OK))
				is(t, "restored", all(impl.FromResiduals(residuals)), all(list, impl.OK))
			}
			residuals, _ := impl.ResidualsOf(even)
			if length > 2 {
				is(t, "equal steps", residuals[2:], make([]int64, length-2))
			}
		}
	}
}

// beyond are numbers that are too great for a limit, of both signs, up to the ends of int64.
func beyond(limit int64) []int64 {
	return []int64{limit + 1, -limit - 1, 2 * limit, -2 * limit, 1 << 32, 1 << 62, -1 << 62, greatestInt, greatestInt - 1, leastInt, leastInt + 1}
}

func TestResidualsOfErrors(t *testing.T) {
	is(t, "the most numbers", all(impl.ResidualsOf(make([]int64, impl.MaxPoints))), all(make([]int64, impl.MaxPoints), impl.OK))
	is(t, "too many numbers", all(impl.ResidualsOf(make([]int64, impl.MaxPoints+1))), all([]int64{}, impl.ErrRange))
	is(t, "far too many numbers", all(impl.ResidualsOf(make([]int64, 100000))), all([]int64{}, impl.ErrRange))
	for _, n := range beyond(greatestPredicted) {
		for _, list := range [][]int64{{n}, {n, n}, {n, 0}, {0, n}, {0, 0, n}, {0, n, 0}, {n, n, n}, append(make([]int64, impl.MaxPoints-1), n)} {
			is(t, "out of range", all(impl.ResidualsOf(list)), all([]int64{}, impl.ErrRange))
		}
	}
}

func TestFromResidualsErrors(t *testing.T) {
	is(t, "the most residuals", all(impl.FromResiduals(make([]int64, impl.MaxPoints))), all(make([]int64, impl.MaxPoints), impl.OK))
	is(t, "too many residuals", all(impl.FromResiduals(make([]int64, impl.MaxPoints+1))), all([]int64{}, impl.ErrRange))
	is(t, "far too many residuals", all(impl.FromResiduals(make([]int64, 100000))), all([]int64{}, impl.ErrRange))
	for _, n := range beyond(impl.MaxResidual) {
		for _, list := range [][]int64{{n}, {n, n}, {n, -n}, {0, n}, {0, n, -n}, {5, n, -3}, append(make([]int64, impl.MaxPoints-1), n)} {
			is(t, "residual out of range", all(impl.FromResiduals(list)), all([]int64{}, impl.ErrRange))
		}
	}
	top := int64(greatestPredicted)
	for name, list := range map[string][]int64{
		"the first number":     {top + 1},
		"a first number below": {-top - 1},
		"the second number":    {top, 1},
		"a second below":       {-top, -1},
		"the third number":     {top - 1, 1, 0},
		"a third below":        {1 - top, -1, 0},
		"a number in between":  {0, top, 1, -top - 1},
		"the greatest one":     {impl.MaxResidual},
		"the least one":        {-impl.MaxResidual},
		"back again":           {impl.MaxResidual, -impl.MaxResidual, -impl.MaxResidual},
		"the most steps":       append([]int64{0, 3000000}, make([]int64, impl.MaxPoints-2)...),
	} {
		is(t, name, all(impl.FromResiduals(list)), all([]int64{}, impl.ErrRange))
	}
	is(t, "the ends are reached", all(impl.FromResiduals([]int64{top, -2 * top, 4 * top, -4 * top})), all([]int64{top, -top, top, -top}, impl.OK))
	is(t, "steps up to the end", all(impl.FromResiduals([]int64{top - 2, 1, 0, -1})), all([]int64{top - 2, top - 1, top, top}, impl.OK))
}

func TestEncodeInk(t *testing.T) {
	is(t, "no ink", all(impl.EncodeInk(impl.Ink{})), all("IK\x00\xf4\x09", impl.OK))
	is(t, "empty ink", all(impl.EncodeInk(ink())), all("IK\x00\xf4\x09", impl.OK))
	// One stroke of one point: X is 0 with the parameter 0, Y is -3 + 4 = 1 with 1, as u is 2, and T is 5 with 2, as u is 10.
	bits := "00000001" + "00000001" + "0000" + "0" + "0000" + "110" + "0010" + "11010"
	is(t, "one point", all(impl.EncodeInk(ink(stroke(point(0, 1, 5))))), all(formText(bits), impl.OK))
	// The parameters 0 and 1 are equally good for X, and T begins at 40960, which needs the long code.
	bits = "00000001" + "00000011" + "0000" + "110" + "11110" + "0" + "0000" + "0" + "110" + "0" +
		"0000" + "11111111111111111111" + "00000000000000010100000000000000" + "110" + "0"
	is(t, "three points", all(impl.EncodeInk(ink(stroke(point(1, 0, 40960), point(3, 1, 40961), point(5, 2, 40962))))), all(formText(bits), impl.OK))
	for _, i := range append(sampleInks(), edgeInks()...) {
		if impl.ValidInk(i) {
			is(t, "an ink", all(impl.EncodeInk(i)), all(formText(inkBits(i)), impl.OK))
			continue
		}
		is(t, "no valid ink", all(impl.EncodeInk(i)), all("", impl.ErrInvalid))
	}
	for _, wrong := range []map[string]impl.Ink{wrongInks(), uncodableInks()} {
		for name, i := range wrong {
			is(t, name, all(impl.EncodeInk(i)), all("", impl.ErrInvalid))
		}
	}
}

// uncodableInks are not valid, but could be written like valid ink.
func uncodableInks() map[string]impl.Ink {
	inks := map[string]impl.Ink{
		"a stroke without points":     ink(stroke()),
		"one without points at last":  ink(stroke(point(1, 1, 1)), stroke()),
		"one without points at first": ink(stroke(), stroke(point(1, 1, 1))),
		"too many points":             inkWith(1, impl.MaxPoints+1),
		"the most points, and a bit":  inkWith(impl.MaxStrokes, impl.MaxPoints+1),
		"too many strokes":            inkWith(impl.MaxStrokes+1, 1),
		"255 strokes":                 inkWith(255, 1),
		"strokes at one time":         ink(stroke(point(1, 1, 1)), stroke(point(1, 1, 1))),
		"strokes back in time":        ink(stroke(point(1, 1, 5), point(1, 1, 9)), stroke(point(1, 1, 7))),
		"equal times":                 ink(stroke(point(1, 1, 1), point(2, 2, 1))),
		"times that fall":             ink(stroke(point(1, 1, 5), point(2, 2, 4))),
		"a later time that falls":     ink(stroke(point(1, 1, 5), point(2, 2, 6), point(2, 2, 5))),
	}
	for _, wrong := range []int64{-1, impl.MaxCoord + 1, greatestPredicted, -greatestPredicted} {
		name := strconv.FormatInt(wrong, 10)
		inks["X of "+name] = ink(stroke(point(wrong, 1, 1)))
		inks["Y of "+name] = ink(stroke(point(1, wrong, 1)))
		inks["last X of "+name] = ink(stroke(point(1, 1, 1)), stroke(point(1, 1, 2), point(wrong, 1, 3)))
	}
	for _, wrong := range []int64{-1, -2, impl.MaxTime + 1, greatestPredicted} {
		inks["T of "+strconv.FormatInt(wrong, 10)] = ink(stroke(point(1, 1, wrong)))
	}
	inks["last T"] = ink(stroke(point(1, 1, impl.MaxTime), point(1, 1, impl.MaxTime+1)))
	return inks
}

func TestDecodeInk(t *testing.T) {
	i, code := impl.DecodeInk("IK\x00\xf4\x09")
	is(t, "no ink", all(i, code), all(impl.Ink{}, impl.OK))
	for _, want := range append(sampleInks(), edgeInks()...) {
		if impl.ValidInk(want) {
			i, code := impl.DecodeInk(formText(inkBits(want)))
			is(t, "an ink", all(i, code), all(want, impl.OK))
		}
	}
	for name, i := range uncodableInks() {
		refused(t, name, inkBits(i))
	}
}

// TestDecodeInkErrors has the errors in their order.
func TestDecodeInkErrors(t *testing.T) {
	good := formText(inkBits(ink(stroke(point(5, 6, 7)))))
	cases := map[string]struct {
		s    string
		code int64
	}{
		"nothing":               {"", impl.ErrTruncated},
		"the mark":              {"IK", impl.ErrTruncated},
		"another mark":          {"ABCD", impl.ErrTruncated},
		"four bytes":            {"IK\x00\x00", impl.ErrTruncated},
		"a checksum only":       {summed("IK"), impl.ErrTruncated},
		"five bytes":            {"IK\x00\x00\x00", impl.ErrSum},
		"five others":           {"AB\x00\x00\x00", impl.ErrFormat},
		"the checksum exchange": {"IK\x00\x09\xf4", impl.ErrSum},
		"five zeros":            {"\x00\x00\x00\x00\x00", impl.ErrFormat},
		"a mark with a sum":     {summed("AB\x00"), impl.ErrFormat},
		"the mark exchanged":    {summed("KI\x00"), impl.ErrFormat},
		"small letters":         {summed("ik\x00"), impl.ErrFormat},
		"first letter only":     {summed("IJ\x00"), impl.ErrFormat},
		"second letter only":    {summed("JK\x00"), impl.ErrFormat},
		"a stroke missing":      {summed("IK\x01"), impl.ErrFormat},
		"ink in front":          {good + good, impl.ErrSum},
		"a byte in front":       {"I" + good, impl.ErrFormat},
		"the text of ink":       {"5,6,7\n", impl.ErrFormat},
	}
	for name, c := range cases {
		i, code := impl.DecodeInk(c.s)
		is(t, name, all(i, code), all(impl.Ink{}, c.code))
		decodes(t, name, c.s)
	}
}

// TestDecodeInkOfOtherCodes has the numbers of valid ink in codes that EncodeInk does not write.
func TestDecodeInkOfOtherCodes(t *testing.T) {
	head, x, y, times := numberText(1, 8)+numberText(1, 8), columnText(5), columnText(6), columnText(70000)
	i, code := impl.DecodeInk(formText(head + x + y + times))
	is(t, "the right codes", all(i, code), all(ink(stroke(point(5, 6, 70000))), impl.OK))
	for k := range int64(16) {
		// The best parameters are 2 for X, where 3 is as good, 3 for Y, and 0 for T, where all are equally good.
		name := "parameter " + strconv.FormatInt(k, 10)
		if k != 2 {
			refused(t, name+" for X", head+columnWith(k, 5)+y+times)
		}
		if k != 3 {
			refused(t, name+" for Y", head+x+columnWith(k, 6)+times)
		}
		if k != 0 {
			refused(t, name+" for T", head+x+y+columnWith(k, 70000))
		}
		for _, u := range []int64{0, 10, 12, 2000000000, 2000000001, 1<<32 - 1} {
			refused(t, name+", long code for X", head+numberText(k, 4)+longText(u)+y+times)
			refused(t, name+", long code for Y", head+x+numberText(k, 4)+longText(u)+times)
		}
		refused(t, name+", bits that end", head+x+y+numberText(k, 4)+ones(60))
	}
	refused(t, "a residual that is too great", head+x+y+columnText(greatestPredicted+1))
	refused(t, "the greatest residual", head+x+y+columnText(impl.MaxResidual))
	refused(t, "numbers that grow", numberText(1, 8)+numberText(2, 8)+columnText(greatestPredicted, 2*greatestPredicted)+columnText(1, 2)+columnText(1, 2))
}

// TestDecodeInkOfEqualParameters has a parameter that is as good as the least one.
func TestDecodeInkOfEqualParameters(t *testing.T) {
	is(t, "as long", len(columnWith(3, 5)), len(columnWith(2, 5)))
	refused(t, "3 for 2", numberText(1, 8)+numberText(1, 8)+columnWith(3, 5)+columnText(6)+columnText(7))
	is(t, "as long", len(columnWith(12, 1000000)), len(columnWith(0, 1000000)))
	refused(t, "12 for 0", numberText(1, 8)+numberText(1, 8)+columnText(5)+columnText(6)+columnWith(12, 1000000))
}

func TestDecodeInkOfOtherCounts(t *testing.T) {
	one := pointsText(point(5, 6, 7))
	two := pointsText(point(5, 6, 8), point(6, 7, 9))
	none := numberText(0, 8) + columnText() + columnText() + columnText()
	for name, bits := range map[string]string{
		"a stroke missing":           numberText(2, 8) + one,
		"255 strokes":                numberText(255, 8) + one,
		"no stroke of one":           numberText(0, 8) + one,
		"one stroke of two":          numberText(1, 8) + one + two,
		"two strokes in wrong order": numberText(2, 8) + two + one,
		"no points":                  numberText(1, 8) + none,
		"no points at last":          numberText(2, 8) + one + none,
		"no points, no columns":      numberText(1, 8) + numberText(0, 8),
		"255 points":                 numberText(1, 8) + numberText(255, 8) + one[8:],
		"255 points of 0":            numberText(1, 8) + numberText(255, 8) + strings.Repeat("0", 4*3+255*3),
		"a point missing":            numberText(1, 8) + numberText(3, 8) + two[8:],
		"a point more":               numberText(1, 8) + numberText(1, 8) + two[8:],
		"17 strokes":                 numberText(17, 8) + strings.Repeat(one, 17),
		"61 points":                  numberText(1, 8) + numberText(61, 8) + strings.Repeat("0", 3*(4+61)),
		"only the number":            numberText(1, 8),
	} {
		refused(t, name, bits)
	}
	i, code := impl.DecodeInk(formText(numberText(2, 8) + one + two))
	is(t, "the right counts", all(i, code), all(ink(stroke(point(5, 6, 7)), stroke(point(5, 6, 8), point(6, 7, 9))), impl.OK))
}

// TestDecodeInkBehindTheCodes has bits behind the last code that are not zero, or too many.
func TestDecodeInkBehindTheCodes(t *testing.T) {
	spare := map[int]bool{}
	for _, want := range append(edgeInks(), ink(stroke(point(1, 0, 0))), ink(stroke(point(1, 1, 0))), ink(stroke(point(2, 1, 1))), ink(stroke(point(5, 9, 4)))) {
		bits := inkBits(want)
		free := (8 - len(bits)%8) % 8
		spare[free] = true
		for k := range free {
			refused(t, "a one at "+strconv.Itoa(k), bits+strings.Repeat("0", k)+"1")
		}
		for n := int64(1); n < 1<<free; n++ {
			refused(t, "other bits", bits+numberText(n, int64(free)))
		}
		full := bits + strings.Repeat("0", free)
		refused(t, "a zero byte more", full+"00000000")
		refused(t, "two zero bytes more", full+"0000000000000000")
		refused(t, "a byte more", full+"10000000")
		refused(t, "the bits twice", full+full)
		i, code := impl.DecodeInk(formText(full))
		is(t, "zeros", all(i, code), all(want, impl.OK))
	}
	is(t, "different numbers of bits", len(spare) > 4 && spare[0] && spare[7], true)
}

// TestDecodeInkOfMuch has more bytes than MaxBits allows, and a few less.
func TestDecodeInkOfMuch(t *testing.T) {
	for _, length := range []int{impl.MaxBits/8 - 1, impl.MaxBits / 8, impl.MaxBits/8 + 1, impl.MaxBits, impl.MaxBits + 1} {
		for _, b := range []string{"\x00", "\x01", "\xff", "\x80"} {
			many := strings.Repeat(b, length)
			i, code := impl.DecodeInk(summed("IK" + many))
			is(t, "much", all(i, code), all(impl.Ink{}, impl.ErrFormat))
			i, code = impl.DecodeInk("IK" + many + "\x00\x00")
			is(t, "much with another checksum", all(i, code), all(impl.Ink{}, impl.ErrSum))
		}
		i, code := impl.DecodeInk(summed("IK" + packText(inkBits(inkWith(2, 3))) + strings.Repeat("\x00", length)))
		is(t, "much behind ink", all(i, code), all(impl.Ink{}, impl.ErrFormat))
	}
}
