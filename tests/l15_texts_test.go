package tests

import (
	"slices"
	"strconv"
	"strings"
	"testing"

	"loop.example/g00918/impl"
)

// textsOfLattices are lattices and their texts.
func textsOfLattices() map[string]impl.Lattice {
	return map[string]impl.Lattice{
		"lattice 1\n":                                        lattice(1),
		"lattice 2\n":                                        lattice(2),
		"lattice 20\n":                                       lattice(20),
		"lattice 3\n0 1 c 5\n0 2 d 7\n1 2 l 4\n":             theLattice(),
		"lattice 2\n0 1 a 0\n":                               lattice(2, edge(0, 1, "a", 0)),
		"lattice 20\n0 19 z 1000000\n":                       lattice(20, edge(0, 19, "z", 1000000)),
		"lattice 2\n0 1 ( 5\n0 1 0 5\n0 1 = 5\n0 1 a 5\n":    lattice(2, edge(0, 1, "(", 5), edge(0, 1, "0", 5), edge(0, 1, "=", 5), edge(0, 1, "a", 5)),
		"lattice 2\n0 1 - 1\n0 1 1 12\n":                     lattice(2, edge(0, 1, "-", 1), edge(0, 1, "1", 12)),
		"lattice 12\n0 9 a 10\n0 10 a 9\n9 10 b 99\n":        lattice(12, edge(0, 9, "a", 10), edge(0, 10, "a", 9), edge(9, 10, "b", 99)),
		"lattice 12\n9 11 , 100\n10 11 + 999999\n":           lattice(12, edge(9, 11, ",", 100), edge(10, 11, "+", 999999)),
		"lattice 4\n1 2 . 7\n":                               lattice(4, edge(1, 2, ".", 7)),
		"lattice 4\n0 1 b 3\n0 1 c 2\n0 2 a 1\n1 2 a 1000\n": lattice(4, edge(0, 1, "b", 3), edge(0, 1, "c", 2), edge(0, 2, "a", 1), edge(1, 2, "a", 1000)),
	}
}

// readLattice returns both results of ReadLattice.
func readLattice(text string) []any {
	l, ok := impl.ReadLattice(text)
	return all(l, ok)
}

// noLattice asserts that a text is not the text of a lattice.
func noLattice(t *testing.T, text string) {
	t.Helper()
	is(t, strconv.Quote(text[:min(len(text), 200)]), readLattice(text), all(impl.Lattice{}, false))
}

func TestLatticeText(t *testing.T) {
	for text, l := range textsOfLattices() {
		is(t, strconv.Quote(text), impl.LatticeText(l), text)
	}
	s := source(454)
	for _, l := range append(manyLattices(&s), dense(200), chain(45, 45, 45, 45, 20)) {
		is(t, "any lattice", impl.LatticeText(l), latticeTextFor(l))
	}
	refusedLattices(t, "LatticeText", func(l impl.Lattice) []any { return all(impl.LatticeText(l)) }, all(""))
}

func TestReadLattice(t *testing.T) {
	for text, want := range textsOfLattices() {
		is(t, strconv.Quote(text), readLattice(text), all(want, true))
	}
	s := source(455)
	for _, l := range append(manyLattices(&s), dense(200), chain(45, 45, 45, 45, 20)) {
		is(t, "any lattice", readLattice(latticeTextFor(l)), all(l, true))
	}
	for _, label := range eachOf(labelBytes) {
		is(t, "the label "+label, readLattice("lattice 2\n0 1 "+label+" 5\n"), all(lattice(2, edge(0, 1, label, 5)), true))
	}
}

// TestReadLatticeNumbers has each number of a range near 0 and near the limits in each place.
func TestReadLatticeNumbers(t *testing.T) {
	read := func(l impl.Lattice) {
		want := all(impl.Lattice{}, false)
		if isLatticeFor(l) {
			want = all(l, true)
		}
		text := latticeTextFor(l)
		is(t, text, readLattice(text), want)
	}
	for n := int64(-3); n <= 30; n++ {
		read(lattice(n))
		read(lattice(n, edge(0, 1, "a", 5)))
		for m := int64(-3); m <= 30; m++ {
			read(lattice(20, edge(n, m, "a", 5)))
			read(lattice(10, edge(n, m, "a", 5)))
		}
	}
	for _, middle := range row(0, 10, 100, 99999, 1000000, 10000000, -100, -1000000) {
		for cost := middle - 3; cost <= middle+3; cost++ {
			read(lattice(3, edge(1, 2, "a", cost)))
		}
	}
	for _, n := range extremes() {
		read(lattice(n))
		read(lattice(3, edge(n, 2, "a", 5)))
		read(lattice(3, edge(1, n, "a", 5)))
		read(lattice(3, edge(1, 2, "a", n)))
	}
}

// TestTextsOfInvalidLattices gives what would be the texts of lattices that are not valid.
func TestTextsOfInvalidLattices(t *testing.T) {
	refusedLattices(t, "ReadLattice", func(l impl.Lattice) []any { return readLattice(latticeTextFor(l)) }, all(impl.Lattice{}, false))
}

func TestReadLatticeWithoutLines(t *testing.T) {
	for _, text := range []string{
		"", "\n", "\n\n", " ", " \n", "\t", "\x00", "\xff\n", "lattice", "lattice\n", "lattice \n", "lattice 2", "0 1 a 5\n", "0 1 a 5", "none", "none\n", "0\n", "2\n", "lattice 2\n0 1 a 5", "lattice 2 0 1 a 5\n", "lattice 1\n0 1 a 5",
	} {
		noLattice(t, text)
	}
}

func wrongLatticeLines() []string {
	lines := []string{
		"lattice\n", "lattice \n", "lattice  3\n", " lattice 3\n", "lattice 3 \n", "lattice 3 3\n", "lattice 3 0\n", "lattice3\n", "lattice 3\n\n", "lattice 3\r\n", "lattice\t3\n", "lattice 3\t\n", "lattice\n3\n", "lattice 3,\n", "lattice ,3\n", "lattice:3\n",
		"Lattice 3\n", "LATTICE 3\n", "lattices 3\n", "lattic 3\n", "xlattice 3\n", "store 3\n", "3\n", "3 lattice\n", "lattice lattice 3\n", "\ufefflattice 3\n", "\nlattice 3\n", "lattice 3\x00\n", "\x00lattice 3\n", "lattice\u00a03\n", "lattice \xff3\n",
		"lattice 3\nlattice 3\n", "lattice 3\nlattice 4\n", "lattice 0\n", "lattice 21\n", "lattice 22\n", "lattice 100\n", "lattice -1\n", "lattice -3\n", "lattice 4294967299\n", "lattice a\n", "lattice -\n", "# lattice 3\n", "lattice 3 # nodes\n",
	}
	for _, word := range wrongNumberWords("3") {
		lines = append(lines, "lattice "+word+"\n")
	}
	return lines
}

// wrongNumberWords are no decimal forms, though most of them are like the one of a number.
func wrongNumberWords(word string) []string {
	return append(wrongWeightWords(),
		"0"+word, "00"+word, "+"+word, "-"+word, "-0", "+0", "--"+word, word+".0", word+"e0", "0x"+word, word+"_0", word+",", word+"a", "a"+word, word+"\x00", "\x00"+word, "３", "٣", word+"\u00a0", "\u00a0"+word, "'"+word+"'",
		"18446744073709551616", "18446744073709551619", "9223372036854775807", "9223372036854775808", "-9223372036854775808", "1000000000000000000", "999999999999999999", strings.Repeat("0", 100)+word, word+strings.Repeat("0", 100), "4294967297", "4294967298",
	)
}

func wrongEdgeLines() []string {
	lines := []string{
		"\n", " \n", "1\n", "1 2\n", "1 2 b\n", "1 2 5\n", "1 2 b 5 5\n", "1 2 b b 5\n", "1 2 2 b 5\n", "1 2 b 5 b\n", "0 1 2 b 5\n", "b 1 2 5\n", "1 b 2 5\n", "1 2 5 b\n", "2 b 5\n", "1 2  5\n", "1 2 \n", "  b 5\n", "1 2 b \n", "   \n",
		" 1 2 b 5\n", "1 2 b 5 \n", "1  2 b 5\n", "1 2  b 5\n", "1 2 b  5\n", "1\t2 b 5\n", "1 2\tb 5\n", "1 2 b\t5\n", "\t1 2 b 5\n", "1 2 b 5\t\n", "1 2 b 5\r\n", "1 2 b 5\n\n", "\n1 2 b 5\n", "1 2 b\n5\n", "1 2\nb 5\n", "1\n2 b 5\n", "1 2 b 5\v\n", "1 2 b 5\f\n",
		"12 b 5\n", "1 2b 5\n", "1 2 b5\n", "1,2 b 5\n", "1-2 b 5\n", "1 2 b:5\n", "1 2 b,5\n", "1,2,b,5\n", "edge 1 2 b 5\n", "lattice 1 2 b 5\n", "1 2 b 5 # b\n", "1 2 b 5;\n", "\x001 2 b 5\n", "1 2 b 5\x00\n", "\ufeff1 2 b 5\n", "1\u00a02 b 5\n", "1 2\u2003b 5\n", "1 2 b\u00855\n", "none\n",
		"2 1 b 5\n", "1 1 b 5\n", "1 3 b 5\n", "2 3 b 5\n", "-1 2 b 5\n", "3 4 b 5\n", "0 0 b 5\n", "2 2 b 5\n", "1 2 b -1\n", "1 2 b 1000001\n", "1 2 b -5\n", "1 20 b 5\n", "2 0 b 5\n",
	}
	for _, label := range wrongLabels() {
		lines = append(lines, "1 2 "+label+" 5\n")
	}
	for _, word := range wrongNumberWords("1") {
		lines = append(lines, word+" 2 b 5\n", "0 "+word+" b 5\n")
	}
	for _, word := range wrongNumberWords("5") {
		lines = append(lines, "1 2 b "+word+"\n")
	}
	return lines
}

// TestReadLatticeLines gives a line instead of each line of a right text; the line itself is not right.
func TestReadLatticeLines(t *testing.T) {
	const one, two, three = "lattice 3\n", "0 1 a 5\n", "1 2 c 6\n"
	is(t, "the right text", readLattice(one+two+three), all(drawn(3, "0 1 a 5", "1 2 c 6"), true))
	is(t, "a right line", readLattice(one + two + "1 2 b 5\n" + three)[1], true)
	for _, line := range wrongLatticeLines() {
		noLattice(t, line)
		noLattice(t, line+two+three)
		noLattice(t, line+one+two+three)
	}
	for _, line := range wrongEdgeLines() {
		noLattice(t, line)
		noLattice(t, one+line)
		noLattice(t, one+two+line)
		noLattice(t, one+line+three)
		noLattice(t, one+two+line+three)
		noLattice(t, one+two+three+line)
	}
}

// TestReadLatticeLineOrder gives the lines of a right text in all orders, and some of them twice.
func TestReadLatticeLineOrder(t *testing.T) {
	lines := []string{"lattice 4\n", "0 1 a 5\n", "0 1 b 4\n", "0 2 a 5\n", "1 2 a 3\n", "0 1 a 6\n"}
	edges := drawn(4, "0 1 a 5", "0 1 b 4", "0 2 a 5", "1 2 a 3", "0 1 a 6").Edges
	right := 0
	var try func(text string, l impl.Lattice, firsts int)
	try = func(text string, l impl.Lattice, firsts int) {
		want := all(impl.Lattice{}, false)
		if strings.HasPrefix(text, lines[0]) && firsts == 1 && isLatticeFor(l) {
			want, right = all(l, true), right+1
		}
		is(t, strconv.Quote(text), readLattice(text), want)
		if len(l.Edges)+firsts == 4 {
			return
		}
		try(text+lines[0], l, firsts+1)
		for at, e := range edges {
			try(text+lines[at+1], lattice(4, append(slices.Clone(l.Edges), e)...), firsts)
		}
	}
	try("", lattice(4), 0)
	is(t, "some are right", right > 15, true)
}

func TestReadLatticeLimits(t *testing.T) {
	noLattice(t, latticeTextFor(dense(201)))
	noLattice(t, latticeTextFor(dense(200))+"19 20 a 5\n")
	noLattice(t, latticeTextFor(dense(200))+"18 19 z 5\n")
	noLattice(t, strings.TrimSuffix(latticeTextFor(dense(200)), "\n"))
	for _, far := range []string{strings.Repeat("\n", 1<<20), strings.Repeat(" ", 1<<20), strings.Repeat("0 ", 1<<19), strings.Repeat("0 1 a 5\n", 1<<16), strings.Repeat("lattice 2\n", 1<<16), strings.Repeat("\xff", 1<<20), strings.Repeat("1", 1<<20)} {
		for _, begin := range []string{"", "lattice ", "lattice 2", "lattice 2\n", "lattice 2\n0 1 ", "lattice 2\n0 1 a ", "lattice 2\n0 1 a 5\n"} {
			for _, end := range []string{"", "\n", "0 1 a 5\n"} {
				noLattice(t, begin+far+end)
			}
		}
	}
}

// TestReadLatticeWithOneByteChanged takes away, doubles, inserts and replaces bytes; what is read all the same has that text.
func TestReadLatticeWithOneByteChanged(t *testing.T) {
	const text = "lattice 12\n0 1 a 50\n1 11 - 7\n10 11 b 1000000\n"
	read := 0
	try := func(text string) {
		l, ok := impl.ReadLattice(text)
		if !ok {
			is(t, "not read: "+strconv.Quote(text), l, impl.Lattice{})
			return
		}
		read++
		is(t, "read: "+strconv.Quote(text), all(latticeTextFor(l), isLatticeFor(l)), all(text, true))
	}
	for k := range len(text) {
		before, at, behind := text[:k], text[k:k+1], text[k+1:]
		try(before + behind)
		try(before)
		try(behind)
		for b := range 256 {
			other := string([]byte{byte(b)})
			try(before + other + at + behind)
			try(before + other + behind)
		}
		for _, other := range []string{"  ", " ,", ", ", "\u00a0", "１", "-0", "00", "+1", "\n\n", "\r\n", " \n", "\n ", "\nlattice ", "\n0 1 a 5\n"} {
			try(before + other + at + behind)
			try(before + other + behind)
		}
	}
	is(t, "some are read", read > 100, true)
}

func TestLatticeTextBackAndForth(t *testing.T) {
	s := source(456)
	for _, l := range manyLattices(&s) {
		text := impl.LatticeText(l)
		read, ok := impl.ReadLattice(text)
		is(t, "restored", all(read, ok, impl.SameLattice(read, l), impl.LatticeText(read)), all(l, true, true, text))
	}
}
