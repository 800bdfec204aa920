package tests

import (
	"strconv"
	"strings"
	"testing"

	"loop.example/g00918/impl"
)

func TestLimitsOfCompression(t *testing.T) {
	is(t, "limits", []int64{impl.MaxRice, impl.MaxUnary, impl.MaxResidual, impl.MaxBits}, []int64{12, 20, 1000000000, 100000})
}

func TestPackBits(t *testing.T) {
	cases := map[string]string{
		"":                  "",
		"0":                 "\x00",
		"1":                 "\x80",
		"01":                "\x40",
		"0000001":           "\x02",
		"00000001":          "\x01",
		"11111111":          "\xff",
		"111111111":         "\xff\x80",
		"0100000101000010":  "AB",
		"01000001010000100": "AB\x00",
	}
	for bits, want := range cases {
		s, code := impl.PackBits(bits)
		is(t, bits, all(s, code), all(want, impl.OK))
	}
	for _, bits := range otherBits() {
		s, code := impl.PackBits(bits)
		is(t, "no bits: "+strconv.Quote(bits[:min(9, len(bits))]), all(s, code), all("", impl.ErrSyntax))
	}
}

// TestPackBitsOfAnyNumber has all numbers of bits up to some bytes, and the most.
func TestPackBitsOfAnyNumber(t *testing.T) {
	s := source(20)
	for length := range int64(70) {
		bits := randomBits(&s, length)
		packed, code := impl.PackBits(bits)
		is(t, bits, all(packed, code), all(packText(bits), impl.OK))
		is(t, "ones", all(impl.PackBits(ones(length))), all(packText(ones(length)), impl.OK))
		back, code := impl.UnpackBits(packed)
		is(t, bits+" unpacked", all(back, code), all((bits + "0000000")[:(length+7)/8*8], impl.OK))
	}
	for _, length := range []int64{impl.MaxBits, impl.MaxBits - 1, impl.MaxBits - 7, impl.MaxBits - 8} {
		bits := randomBits(&s, length)
		packed, code := impl.PackBits(bits)
		is(t, "many bits", all(packed == packText(bits), code), all(true, impl.OK))
	}
}

func randomBits(s *source, length int64) string {
	var text strings.Builder
	for range length {
		text.WriteString(strconv.FormatInt(s.below(2), 10))
	}
	return text.String()
}

func TestUnpackBits(t *testing.T) {
	whole := ""
	for b := range int64(256) {
		bits, code := impl.UnpackBits(string([]byte{byte(b)}))
		is(t, "byte "+strconv.FormatInt(b, 10), all(bits, code), all(numberText(b, 8), impl.OK))
		whole += string([]byte{byte(b)})
	}
	bits, code := impl.UnpackBits(whole)
	packed, packCode := impl.PackBits(bits)
	is(t, "all bytes", all(len(bits), code, packed, packCode), all(2048, impl.OK, whole, impl.OK))
	is(t, "no bytes", all(impl.UnpackBits("")), all("", impl.OK))
	is(t, "two bytes", all(impl.UnpackBits("A\x80")), all("0100000110000000", impl.OK))
	is(t, "a letter of two bytes", all(impl.UnpackBits("é")), all("1100001110101001", impl.OK))
}

func TestUnpackBitsLimit(t *testing.T) {
	most := strings.Repeat("\x01", impl.MaxBits/8)
	bits, code := impl.UnpackBits(most)
	is(t, "the most", all(bits == strings.Repeat("00000001", impl.MaxBits/8), code), all(true, impl.OK))
	packed, code := impl.PackBits(bits)
	is(t, "the most, packed", all(packed == most, code), all(true, impl.OK))
	for _, s := range []string{most + "\x00", most + "\x01", most + most, strings.Repeat("\x00", impl.MaxBits)} {
		is(t, "too many: "+strconv.Itoa(len(s)), all(impl.UnpackBits(s)), all("", impl.ErrRange))
	}
}

func TestNumberBits(t *testing.T) {
	for width := int64(1); width <= 40; width++ {
		greatest := int64(1)<<width - 1
		name := "width " + strconv.FormatInt(width, 10)
		is(t, name+", 0", all(impl.NumberBits(0, width)), all(strings.Repeat("0", int(width)), impl.OK))
		is(t, name+", greatest", all(impl.NumberBits(greatest, width)), all(ones(width), impl.OK))
		is(t, name+", highest bit", all(impl.NumberBits(greatest/2+1, width)), all("1"+strings.Repeat("0", int(width)-1), impl.OK))
		is(t, name+", less than greatest", all(impl.NumberBits(greatest-1, width)), all(ones(width-1)+"0", impl.OK))
		for _, n := range []int64{greatest + 1, greatest + 2, 2*greatest + 1, -1, -greatest, leastInt, leastInt + 1, greatestInt, greatestInt - 1, 1 << 62} {
			is(t, name+", "+strconv.FormatInt(n, 10), all(impl.NumberBits(n, width)), all("", impl.ErrRange))
		}
	}
	is(t, "5 in 4 bits", all(impl.NumberBits(5, 4)), all("0101", impl.OK))
	is(t, "1234 in 40 bits", all(impl.NumberBits(1234, 40)), all("0000000000000000000000000000010011010010", impl.OK))
	for _, width := range []int64{0, -1, 41, 42, 62, 63, 64, 65, 128, leastInt, greatestInt, leastInt + 1} {
		for _, n := range []int64{0, 1, -1, 1 << 39, greatestInt, leastInt} {
			is(t, "width "+strconv.FormatInt(width, 10), all(impl.NumberBits(n, width)), all("", impl.ErrRange))
		}
	}
}

func TestRiceBits(t *testing.T) {
	cases := []struct {
		n, k int64
		want string
	}{
		{-3, 1, "1101"}, {0, 0, "0"}, {0, 1, "00"}, {0, 12, "0000000000000"},
		{-1, 0, "10"}, {1, 0, "110"}, {-2, 0, "1110"}, {2, 0, "11110"}, {1, 1, "100"}, {-1, 1, "01"}, {5, 2, "11010"},
		{9, 0, "1111111111111111110"},
		{-10, 0, "11111111111111111110"},
		{10, 0, "11111111111111111111" + "00000000000000000000000000010100"},
		{19, 1, "11111111111111111110" + "0"},
		{-20, 1, "11111111111111111110" + "1"},
		{20, 1, "11111111111111111111" + "00000000000000000000000000101000"},
		{-40960, 12, "11111111111111111110" + "111111111111"},
		{40960, 12, "11111111111111111111" + "00000000000000010100000000000000"},
		{impl.MaxResidual, 12, "11111111111111111111" + "01110111001101011001010000000000"},
		{-impl.MaxResidual, 0, "11111111111111111111" + "01110111001101011001001111111111"},
	}
	for _, c := range cases {
		name := strconv.FormatInt(c.n, 10) + " with " + strconv.FormatInt(c.k, 10)
		is(t, name, all(impl.RiceBits(c.n, c.k)), all(c.want, impl.OK))
		is(t, name+" read", all(impl.ReadRice(c.want, 0, c.k)), all(c.n, int64(len(c.want)), impl.OK))
	}
}

// aroundUnary are numbers whose code is the last one without, or among the first ones with, MaxUnary ones.
func aroundUnary(k int64) []int64 {
	var numbers []int64
	for u := int64(impl.MaxUnary)<<k - 3; u <= impl.MaxUnary<<k+3; u++ {
		numbers = append(numbers, unfold(u))
	}
	return numbers
}

func TestRiceBitsLimits(t *testing.T) {
	s := source(21)
	for k := range int64(impl.MaxRice + 1) {
		numbers := append(aroundUnary(k), impl.MaxResidual, impl.MaxResidual-1, -impl.MaxResidual, 1-impl.MaxResidual)
		for range 50 {
			numbers = append(numbers, s.below(200)-100, s.below(200000)-100000, s.below(2*impl.MaxResidual+1)-impl.MaxResidual)
		}
		for _, n := range numbers {
			code := riceText(n, k)
			is(t, "a number", all(impl.RiceBits(n, k)), all(code, impl.OK))
			is(t, "its code", all(impl.ReadRice(code, 0, k)), all(n, int64(len(code)), impl.OK))
		}
		for _, n := range []int64{impl.MaxResidual + 1, -impl.MaxResidual - 1, 1 << 31, 1 << 32, -1 << 32, leastInt, leastInt + 1, greatestInt, greatestInt - 1, 1 << 62, -1 << 62} {
			is(t, "no number of the range", all(impl.RiceBits(n, k)), all("", impl.ErrRange))
		}
	}
	for _, k := range []int64{-1, impl.MaxRice + 1, 62, 63, 64, 65, leastInt, greatestInt, -64} {
		for _, n := range []int64{0, -1, 1, impl.MaxResidual, impl.MaxResidual + 1, leastInt, greatestInt} {
			is(t, "no parameter", all(impl.RiceBits(n, k)), all("", impl.ErrRange))
		}
	}
}

func TestReadRice(t *testing.T) {
	is(t, "the example behind a zero", all(impl.ReadRice("01101", 1, 1)), all(int64(-3), int64(5), impl.OK))
	is(t, "the example in front of ones", all(impl.ReadRice("1101111", 0, 1)), all(int64(-3), int64(4), impl.OK))
	is(t, "inside the example", all(impl.ReadRice("1101", 1, 1)), all(int64(-2), int64(4), impl.OK))
	is(t, "its last bits", all(impl.ReadRice("1101", 2, 1)), all(int64(-1), int64(4), impl.OK))
	is(t, "its last bit", all(impl.ReadRice("1101", 3, 1)), all(int64(0), int64(0), impl.ErrTruncated))
	is(t, "a zero", all(impl.ReadRice("0", 0, 0)), all(int64(0), int64(1), impl.OK))
	is(t, "a number behind another", all(impl.ReadRice("0"+longText(80)+"110", 1, 1)), all(int64(40), int64(53), impl.OK))
	is(t, "the most bits", all(impl.ReadRice(strings.Repeat("0", impl.MaxBits), impl.MaxBits-13, 12)), all(int64(0), int64(impl.MaxBits), impl.OK))
}

func TestReadRiceErrors(t *testing.T) {
	far := []int64{-1, 5, 6, leastInt, greatestInt, 1 << 32}
	for _, k := range []int64{-1, impl.MaxRice + 1, 64, leastInt, greatestInt} {
		for _, at := range append(far, 0, 2, 4) {
			is(t, "no parameter", all(impl.ReadRice("1101", at, k)), all(int64(0), int64(0), impl.ErrRange))
			is(t, "no bits and no parameter", all(impl.ReadRice("1102", at, k)), all(int64(0), int64(0), impl.ErrSyntax))
		}
		is(t, "empty bits and no parameter", all(impl.ReadRice("", 0, k)), all(int64(0), int64(0), impl.ErrRange))
	}
	for k := range int64(impl.MaxRice + 1) {
		for _, at := range far {
			is(t, "no index", all(impl.ReadRice("1101", at, k)), all(int64(0), int64(0), impl.ErrRange))
		}
		is(t, "the end", all(impl.ReadRice("1101", 4, k)), all(int64(0), int64(0), impl.ErrTruncated))
		is(t, "empty bits", all(impl.ReadRice("", 0, k)), all(int64(0), int64(0), impl.ErrTruncated))
		is(t, "behind empty bits", all(impl.ReadRice("", 1, k)), all(int64(0), int64(0), impl.ErrRange))
		is(t, "before empty bits", all(impl.ReadRice("", -1, k)), all(int64(0), int64(0), impl.ErrRange))
	}
	for _, bits := range otherBits() {
		for _, at := range []int64{0, 1, -1, int64(len(bits)), int64(len(bits)) + 1, leastInt, greatestInt} {
			is(t, "no bits", all(impl.ReadRice(bits, at, 1)), all(int64(0), int64(0), impl.ErrSyntax))
		}
	}
	is(t, "another character behind the code", all(impl.ReadRice("11010x", 0, 1)), all(int64(0), int64(0), impl.ErrSyntax))
	is(t, "another character before the code", all(impl.ReadRice("x1101", 1, 1)), all(int64(0), int64(0), impl.ErrSyntax))
}

// riceCase is a text with what ReadRice returns for it at 0.
type riceCase struct {
	bits            string
	n, behind, code int64
}

// TestLongRunsOfOnes gives the results themselves.
func TestLongRunsOfOnes(t *testing.T) {
	for k := range int64(impl.MaxRice + 1) {
		least := int64(impl.MaxUnary) << k
		short := ones(19) + "0" + ones(k)
		cases := map[string]riceCase{
			"19 ones":                      {short, unfold(least - 1), 20 + k, impl.OK},
			"19 ones, a bit less":          {short[:19+k], 0, 0, impl.ErrTruncated},
			"19 ones only":                 {ones(19), 0, 0, impl.ErrTruncated},
			"20 ones only":                 {ones(20), 0, 0, impl.ErrTruncated},
			"21 ones only":                 {ones(21), 0, 0, impl.ErrTruncated},
			"51 ones only":                 {ones(51), 0, 0, impl.ErrTruncated},
			"52 ones":                      {ones(52), 0, 0, impl.ErrFormat},
			"53 ones":                      {ones(53), 0, 0, impl.ErrFormat},
			"21 ones and zeros":            {ones(21) + numberText(0, 31), 0, 0, impl.ErrFormat},
			"21 ones and a zero less":      {ones(21) + numberText(0, 30), 0, 0, impl.ErrTruncated},
			"20 ones, a zero and all ones": {ones(20) + "0" + ones(31), 0, 0, impl.ErrFormat},
			"20 ones, u with a short code": {longText(least - 1), 0, 0, impl.ErrFormat},
			"20 ones, u of 0":              {longText(0), 0, 0, impl.ErrFormat},
			"20 ones, the least u":         {longText(least), unfold(least), 52, impl.OK},
			"20 ones, the next u":          {longText(least + 1), unfold(least + 1), 52, impl.OK},
			"20 ones, the greatest u":      {longText(2000000000), impl.MaxResidual, 52, impl.OK},
			"20 ones, the u before it":     {longText(1999999999), -impl.MaxResidual, 52, impl.OK},
			"20 ones, u too great":         {longText(2000000001), 0, 0, impl.ErrFormat},
			"20 ones, the next one":        {longText(2000000002), 0, 0, impl.ErrFormat},
			"20 ones, the right u, cut":    {longText(least)[:51], 0, 0, impl.ErrTruncated},
			"20 ones, a wrong u, cut":      {longText(0)[:51], 0, 0, impl.ErrTruncated},
			"20 ones, a short code":        {ones(20) + "0" + ones(k), 0, 0, impl.ErrTruncated},
		}
		for name, c := range cases {
			checkRice(t, "parameter "+strconv.FormatInt(k, 10)+": "+name, k, c)
		}
	}
}

// checkRice checks a case as it is, behind other bits, and in front of others if it is not their end that counts.
func checkRice(t *testing.T, name string, k int64, c riceCase) {
	t.Helper()
	for _, before := range []string{"", "0", "1", "01", ones(19), ones(20), ones(40), longText(77), "0" + ones(7)} {
		at, behind := int64(len(before)), c.behind
		if c.code == impl.OK {
			behind += at
		}
		for _, after := range []string{"", "0", "1", ones(60), numberText(0, 60)} {
			if c.code == impl.ErrTruncated && after != "" {
				continue
			}
			is(t, name+" behind "+before+", before "+after, all(impl.ReadRice(before+c.bits+after, at, k)), all(c.n, behind, c.code))
		}
	}
}

// TestReadRiceAtEveryIndex compares with the statement of the codes in texts.
func TestReadRiceAtEveryIndex(t *testing.T) {
	s := source(22)
	for k := range int64(impl.MaxRice + 1) {
		texts := []string{"", ones(75), numberText(0, 40), codesText(aroundUnary(k), k), longText(2000000001) + longText(1), randomBits(&s, 90)}
		for range 12 {
			texts = append(texts, randomRuns(&s))
		}
		for _, bits := range texts {
			for at := range int64(len(bits) + 1) {
				n, length, code := readText(bits[at:], k)
				behind := at + length
				if code != impl.OK {
					behind = 0
				}
				is(t, "at "+strconv.FormatInt(at, 10)+" of "+bits, all(impl.ReadRice(bits, at, k)), all(n, behind, code))
			}
		}
	}
}

// randomRuns returns bits with ones in runs of about MaxUnary.
func randomRuns(s *source) string {
	bits := ""
	for range 2 + s.below(4) {
		bits += ones(17+s.below(6)) + randomBits(s, s.below(40))
	}
	return bits
}

func TestReadRiceOfManyCodes(t *testing.T) {
	s := source(23)
	for k := range int64(impl.MaxRice + 1) {
		var numbers []int64
		bits := randomBits(&s, s.below(9))
		at := int64(len(bits))
		for range 60 {
			n := s.below(2<<s.below(29)) - s.below(2<<s.below(29))
			code, _ := impl.RiceBits(n, k)
			numbers, bits = append(numbers, n), bits+code
		}
		for _, want := range numbers {
			n, behind, code := impl.ReadRice(bits, at, k)
			is(t, "one of many", all(n, code), all(want, impl.OK))
			at = behind
		}
		is(t, "all bits are read", at, int64(len(bits)))
	}
}

func TestBestRice(t *testing.T) {
	cases := []struct {
		list       []int64
		best, bits int64
	}{
		{nil, 0, 0}, {[]int64{}, 0, 0},
		{[]int64{5, 3, 1, -4}, 2, 16},
		{[]int64{0}, 0, 1}, {[]int64{-1}, 0, 2}, {[]int64{1}, 0, 3}, {[]int64{0, 0, 0}, 0, 3},
		// Equally good are 1 and 0 for the first, 2 and 3 for the second one, and all for the others.
		{[]int64{1, -1, 0}, 0, 6}, {[]int64{5}, 2, 5}, {[]int64{40960}, 0, 52}, {[]int64{impl.MaxResidual, -impl.MaxResidual}, 0, 104},
		{[]int64{-40960}, 12, 32}, {[]int64{40959}, 12, 32}, {[]int64{40959, 40960}, 12, 84},
		{[]int64{0, 40959}, 12, 45}, {[]int64{0, 0, 0, 40959}, 0, 55},
		{[]int64{10, 0, 0, 0, 0, 0, 0, 0}, 1, 26}, {[]int64{100, 100, 100}, 7, 27},
	}
	for _, c := range cases {
		is(t, "best of few", all(impl.BestRice(c.list)), all(c.best, c.bits, impl.OK))
	}
	s := source(24)
	for range 500 {
		var list []int64
		size := int64(1) << s.below(31)
		for range s.below(impl.MaxPoints + 1) {
			list = append(list, min(impl.MaxResidual, s.below(size)-s.below(size)/2))
		}
		k, codes := bestText(list)
		is(t, "best of many", all(impl.BestRice(list)), all(k, int64(len(codes)), impl.OK))
	}
}

func TestBestRiceErrors(t *testing.T) {
	is(t, "the most numbers", all(impl.BestRice(make([]int64, impl.MaxPoints))), all(int64(0), int64(60), impl.OK))
	is(t, "too many numbers", all(impl.BestRice(make([]int64, impl.MaxPoints+1))), all(int64(0), int64(0), impl.ErrRange))
	is(t, "far too many numbers", all(impl.BestRice(make([]int64, 100000))), all(int64(0), int64(0), impl.ErrRange))
	for _, n := range []int64{impl.MaxResidual + 1, -impl.MaxResidual - 1, leastInt, leastInt + 1, greatestInt, greatestInt - 1, 1 << 32} {
		for at := range impl.MaxPoints {
			list := make([]int64, impl.MaxPoints)
			list[at] = n
			is(t, "no number of the range", all(impl.BestRice(list)), all(int64(0), int64(0), impl.ErrRange))
			is(t, "the last one", all(impl.BestRice(list[:at+1])), all(int64(0), int64(0), impl.ErrRange))
		}
	}
	for _, n := range []int64{impl.MaxResidual, -impl.MaxResidual} {
		is(t, "the ends of the range", all(impl.BestRice([]int64{0, n, 0})), all(int64(0), int64(54), impl.OK))
	}
}

func TestChecksumOf(t *testing.T) {
	cases := map[string]int64{"": 1, "\x00": 257, "a": 354, "\xff": 512, "\x00\x00": 528, "ab": 25555, "ba": 25811, "IK\x00": 62473}
	for s, want := range cases {
		is(t, strconv.Quote(s), impl.ChecksumOf(s), want)
	}
	s := source(25)
	for length := range int64(120) {
		var bytes []byte
		for range length {
			bytes = append(bytes, byte(s.below(256)))
		}
		is(t, "random bytes", impl.ChecksumOf(string(bytes)), sumText(string(bytes)))
	}
	for _, text := range []string{strings.Repeat("\xff", 3000), strings.Repeat("\x00", 3000), strings.Repeat("\x80a", 1500)} {
		is(t, "many bytes", impl.ChecksumOf(text), sumText(text))
	}
	many := strings.Repeat("ab\x00", impl.MaxBits)
	is(t, "more bytes than bits allow", impl.ChecksumOf(many), sumText(many))
}
