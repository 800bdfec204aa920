package tests

import (
	"strconv"
	"strings"
	"testing"

	"loop.example/g00918/impl"
)

func TestCodes(t *testing.T) {
	codes := []int64{
		impl.OK, impl.ErrInvalid, impl.ErrRange, impl.ErrNotFound, impl.ErrExists, impl.ErrFull,
		impl.ErrState, impl.ErrSyntax, impl.ErrFormat, impl.ErrTruncated, impl.ErrSum,
	}
	is(t, "codes", codes, []int64{0, 1, 2, 3, 4, 5, 6, 7, 8, 9, 10})
	is(t, "limits", []int64{impl.MaxName, impl.MaxWord}, []int64{12, 10})
}

func TestCodeName(t *testing.T) {
	names := []string{"ok", "invalid", "range", "not-found", "exists", "full", "state", "syntax", "format", "truncated", "sum"}
	for code, name := range names {
		is(t, "code "+name, impl.CodeName(int64(code)), name)
	}
	for _, code := range []int64{-1, 11, 12, 256, leastInt, greatestInt} {
		is(t, "code "+strconv.FormatInt(code, 10), impl.CodeName(code), "")
	}
}

func TestIsName(t *testing.T) {
	for _, s := range []string{"a", "z", "pen-3", "a0", "z9", "a-", "a--b", "a-0-", "abcdefghijkl", "a12345678901", "a-----------"} {
		is(t, "name "+s, impl.IsName(s), true)
	}
	wrong := []string{
		"", "abcdefghijklm", "a123456789012", "0", "9a", "-", "-a", "A", "aB", "aZ", "a b", " a", "a ", "a\n", "a\x00",
		"a_b", "a.b", "a/", "a:", "a`", "a{", "`", "{", "a,", "ä", "aä", "aé", "a\xff", "\xffa", "a\x80", "aａ", "a٣", "abcdefghijkä",
	}
	for _, s := range wrong {
		is(t, "no name "+strconv.Quote(s), impl.IsName(s), false)
	}
	is(t, "long text", impl.IsName(strings.Repeat("a", 1<<16)), false)
}

func TestIsWord(t *testing.T) {
	for _, s := range []string{"a", "z", "pen", "abcdefghij", "zzzzzzzzzz"} {
		is(t, "word "+s, impl.IsWord(s), true)
	}
	wrong := []string{
		"", "abcdefghijk", "pen-3", "pen3", "3pen", "p-n", "-", "Pen", "peN", "p n", " pen", "pen ", "pen\n", "pen\x00",
		"`", "{", "a`", "a{", "ä", "aä", "a\xff", "\xff", "ａ", "abcdefghiä",
	}
	for _, s := range wrong {
		is(t, "no word "+strconv.Quote(s), impl.IsWord(s), false)
	}
	is(t, "long text", impl.IsWord(strings.Repeat("a", 1<<16)), false)
}

// TestBytesOfNamesAndWords tries every byte as the first one and as a later one.
func TestBytesOfNamesAndWords(t *testing.T) {
	for b := range 256 {
		s := string([]byte{byte(b)})
		letter := 'a' <= b && b <= 'z'
		digit := '0' <= b && b <= '9'
		is(t, "first byte of a name "+strconv.Quote(s), impl.IsName(s), letter)
		is(t, "later byte of a name "+strconv.Quote(s), impl.IsName("a"+s), letter || digit || b == '-')
		is(t, "first byte of a word "+strconv.Quote(s), impl.IsWord(s), letter)
		is(t, "later byte of a word "+strconv.Quote(s), impl.IsWord("a"+s), letter)
	}
}

func TestDecimal(t *testing.T) {
	cases := []struct {
		n    int64
		text string
	}{
		{0, "0"}, {1, "1"}, {-1, "-1"}, {9, "9"}, {10, "10"}, {-10, "-10"}, {1000, "1000"}, {-12, "-12"},
		{999999999999999999, "999999999999999999"}, {1000000000000000000, "1000000000000000000"},
		{greatestInt, "9223372036854775807"}, {leastInt, "-9223372036854775808"},
	}
	for _, c := range cases {
		is(t, "decimal "+c.text, impl.Decimal(c.n), c.text)
	}
}

func TestReadDecimal(t *testing.T) {
	cases := []struct {
		text string
		n    int64
	}{
		{"0", 0}, {"7", 7}, {"-7", -7}, {"-12", -12}, {"10", 10}, {"4095", 4095}, {"-1000000", -1000000},
		{"100000000000000000", 100000000000000000},
		{"999999999999999999", 999999999999999999}, {"-999999999999999999", -999999999999999999},
	}
	for _, c := range cases {
		n, ok := impl.ReadDecimal(c.text)
		is(t, "read "+c.text, all(n, ok), all(c.n, true))
	}
	wrong := []string{
		"", "-", "+", "--1", "-+1", "+-1", "+1", "+0", "-0", "00", "01", "-01", "007", "000000000000000000", "-00",
		"1000000000000000000", "-1000000000000000000", "9223372036854775807", "-9223372036854775808", "99999999999999999999999",
		"0000000000000000001", " 1", "1 ", "1\n", "- 1", "1-", "1 2", "1,2", "1.0", "1e3", "0x1", "0b1", "1_000", "a", "1a", "½", "٣", "１", "−1",
		"1\x00", "\x001", "\xff",
	}
	for _, s := range wrong {
		n, ok := impl.ReadDecimal(s)
		is(t, "read "+strconv.Quote(s), all(n, ok), all(int64(0), false))
	}
	n, ok := impl.ReadDecimal(strings.Repeat("1", 1<<16))
	is(t, "read many digits", all(n, ok), all(int64(0), false))
}

func TestReadDecimalOfDecimal(t *testing.T) {
	s := source(3)
	for range 2000 {
		n := s.below(1<<31)*s.below(1<<28) - s.below(1<<31)*s.below(1<<28)
		back, ok := impl.ReadDecimal(impl.Decimal(n))
		is(t, "restored "+impl.Decimal(n), all(back, ok), all(n, true))
	}
}

func TestSplitWords(t *testing.T) {
	cases := []struct {
		text  string
		words []string
	}{
		{"", nil}, {" ", nil}, {"    ", nil},
		{"a", []string{"a"}}, {" a", []string{"a"}}, {"a ", []string{"a"}}, {"  a  ", []string{"a"}},
		{"a b", []string{"a", "b"}}, {"pen  and   ink ", []string{"pen", "and", "ink"}}, {"b a b", []string{"b", "a", "b"}},
		{"a\tb\nc d\re\vf\fg", []string{"a\tb\nc", "d\re\vf\fg"}},
		{"\t", []string{"\t"}}, {"\n \n", []string{"\n", "\n"}}, {"\x00 \x00", []string{"\x00", "\x00"}},
		{"a\u00a0b\u2003c\u0085d e", []string{"a\u00a0b\u2003c\u0085d", "e"}},
		{"\xff \xfe\x80", []string{"\xff", "\xfe\x80"}}, {"\xc2 \xa0", []string{"\xc2", "\xa0"}}, {"ä é", []string{"ä", "é"}},
		{"10,20,0 30,25,8", []string{"10,20,0", "30,25,8"}},
	}
	for _, c := range cases {
		is(t, "split "+strconv.Quote(c.text), impl.SplitWords(c.text), c.words)
	}
}

// TestPurityOfBasics is for promise 1 in chapter 1.
func TestPurityOfBasics(t *testing.T) {
	texts := []string{"", " ", "a", "pen-3", "-12", "a  b c", "\xff\xfe \x80", strings.Repeat("9", 400), strings.Repeat(" x", 4000)}
	for _, s := range texts {
		read := func() []any {
			n, ok := impl.ReadDecimal(s)
			return all(impl.IsName(s), impl.IsWord(s), impl.SplitWords(s), n, ok)
		}
		is(t, "twice "+strconv.Quote(s), read(), read())
	}
	for _, n := range []int64{leastInt, leastInt + 1, -1, 0, 1, 10, 11, greatestInt} {
		write := func() []any { return all(impl.CodeName(n), impl.Decimal(n)) }
		is(t, "twice "+strconv.FormatInt(n, 10), write(), write())
	}
}

func TestSplitWordsIsNew(t *testing.T) {
	words := impl.SplitWords("a b c")
	for k := range words[:cap(words)] {
		words[:cap(words)][k] = "x"
	}
	is(t, "split again", impl.SplitWords("a b c"), []string{"a", "b", "c"})
}
