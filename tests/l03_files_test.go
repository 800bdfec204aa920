package tests

import (
	"math/big"
	"strconv"
	"testing"

	"loop.example/g00918/impl"
)

func TestLimitsOfFiles(t *testing.T) {
	is(t, "limits", []int64{impl.MaxChannels, impl.MaxNotes, impl.MaxValue}, []int64{6, 12, 1000000000})
}

// rightFiles are valid.
func rightFiles() map[string]impl.File {
	least, most := int64(-impl.MaxValue), int64(impl.MaxValue)
	whole := []impl.Channel{channel("v", "dot", least, most)}
	return map[string]impl.File{
		"plain":              plainFile(),
		"the most":           mostOfFile(),
		"most channels":      fileWith(impl.MaxChannels, 1, 1, 0),
		"most strokes":       fileWith(1, impl.MaxStrokes, 1, 0),
		"most rows":          fileWith(1, 1, impl.MaxPoints, 0),
		"most notes":         fileWith(1, 1, 1, impl.MaxNotes),
		"no strokes":         {Channels: whole},
		"empty lists":        {Channels: whole, Strokes: []impl.Rows{}, Notes: []impl.Note{}},
		"no notes":           {Channels: whole, Strokes: []impl.Rows{rows(row(0))}},
		"the ends":           {Channels: whole, Strokes: []impl.Rows{rows(row(least), row(most))}},
		"least channel":      {Channels: []impl.Channel{channel("v", "dot", least, least+1)}},
		"greatest channel":   {Channels: []impl.Channel{channel("v", "dot", most-1, most)}},
		"negative channel":   {Channels: []impl.Channel{channel("v", "dot", -9, -3)}, Strokes: []impl.Rows{rows(row(-9), row(-3), row(-5))}},
		"longest names":      {Channels: []impl.Channel{channel("abcdefghijkl", "a-2345678901", 0, 1)}, Strokes: []impl.Rows{rows(row(0))}, Notes: []impl.Note{note(0, 1, "abcdefghijkl")}},
		"shortest names":     {Channels: []impl.Channel{channel("a", "b", 0, 1)}, Strokes: []impl.Rows{rows(row(1))}, Notes: []impl.Note{note(0, 1, "c")}},
		"equal units":        {Channels: []impl.Channel{channel("a", "a", 0, 1), channel("b", "a", 0, 1)}},
		"equal notes":        {Channels: whole, Strokes: []impl.Rows{rows(row(0))}, Notes: []impl.Note{note(0, 1, "a"), note(0, 1, "a")}},
		"note on the last":   changed(func(f *impl.File) { f.Notes = []impl.Note{note(2, 3, "a")} }),
		"note on all":        changed(func(f *impl.File) { f.Notes = []impl.Note{note(0, 3, "a")} }),
		"times that fall":    {Channels: penChannels("ms", 0, 9), Strokes: []impl.Rows{rows(row(1, 1, 5), row(1, 1, 4))}},
		"words of the lines": {Channels: []impl.Channel{channel("channel", "stroke", 0, 1), channel("note", "channel", 0, 1)}, Strokes: []impl.Rows{rows(row(0, 1))}, Notes: []impl.Note{note(0, 1, "note")}},
	}
}

func TestValidFile(t *testing.T) {
	for name, f := range rightFiles() {
		is(t, name, impl.ValidFile(f), true)
	}
	for name, f := range wrongFiles() {
		is(t, name, impl.ValidFile(f), false)
	}
}

// TestValidFileWithoutStrokes has notes that could be on no stroke.
func TestValidFileWithoutStrokes(t *testing.T) {
	channels := penChannels("ms", 0, 9)
	for _, n := range []impl.Note{note(0, 1, "a"), note(0, 0, "a"), note(-1, 0, "a")} {
		is(t, "a note on nothing", impl.ValidFile(impl.File{Channels: channels, Notes: []impl.Note{n}}), false)
	}
}

func TestSameFile(t *testing.T) {
	others := map[string]impl.File{
		"nothing":          {},
		"another name":     changed(func(f *impl.File) { f.Channels[0].Name = "z" }),
		"another unit":     changed(func(f *impl.File) { f.Channels[1].Unit = "z" }),
		"another Low":      changed(func(f *impl.File) { f.Channels[2].Low = -51 }),
		"another High":     changed(func(f *impl.File) { f.Channels[3].High = 11 }),
		"fewer channels":   changed(func(f *impl.File) { f.Channels = f.Channels[:3] }),
		"no channels":      changed(func(f *impl.File) { f.Channels = nil }),
		"channels turned":  changed(func(f *impl.File) { f.Channels[0], f.Channels[1] = f.Channels[1], f.Channels[0] }),
		"another value":    changed(func(f *impl.File) { f.Strokes[0].Values[1][3]++ }),
		"a longer row":     changed(func(f *impl.File) { f.Strokes[1].Values[0] = row(100, 200, 3, 0, 0) }),
		"a shorter row":    changed(func(f *impl.File) { f.Strokes[1].Values[0] = row(100, 200, 3) }),
		"fewer rows":       changed(func(f *impl.File) { f.Strokes[2].Values = f.Strokes[2].Values[:2] }),
		"an empty row":     changed(func(f *impl.File) { f.Strokes[2].Values = append(f.Strokes[2].Values, nil) }),
		"fewer strokes":    changed(func(f *impl.File) { f.Strokes = f.Strokes[:2] }),
		"an empty stroke":  changed(func(f *impl.File) { f.Strokes = append(f.Strokes, impl.Rows{}) }),
		"no strokes":       changed(func(f *impl.File) { f.Strokes = nil }),
		"strokes turned":   changed(func(f *impl.File) { f.Strokes[0], f.Strokes[1] = f.Strokes[1], f.Strokes[0] }),
		"another From":     changed(func(f *impl.File) { f.Notes[2].From = 0 }),
		"another To":       changed(func(f *impl.File) { f.Notes[0].To = 2 }),
		"another text":     changed(func(f *impl.File) { f.Notes[1].Text = "a" }),
		"fewer notes":      changed(func(f *impl.File) { f.Notes = f.Notes[:2] }),
		"no notes":         changed(func(f *impl.File) { f.Notes = nil }),
		"a zero note more": changed(func(f *impl.File) { f.Notes = append(f.Notes, impl.Note{}) }),
	}
	for name, other := range others {
		is(t, name, all(impl.SameFile(plainFile(), other), impl.SameFile(other, plainFile()), impl.SameFile(other, roomy(other))), all(false, false, true))
	}
	is(t, "a copy", impl.SameFile(plainFile(), roomy(plainFile())), true)
	for name, f := range wrongFiles() {
		is(t, "itself, invalid: "+name, impl.SameFile(f, roomy(f)), true)
		is(t, "another one, invalid: "+name, impl.SameFile(f, plainFile()), false)
	}
}

func TestSameFileNilAndEmpty(t *testing.T) {
	empty := impl.File{Channels: []impl.Channel{}, Strokes: []impl.Rows{}, Notes: []impl.Note{}}
	is(t, "lists", all(impl.SameFile(impl.File{}, empty), impl.SameFile(empty, impl.File{})), all(true, true))
	nilRows, emptyRows := impl.File{Strokes: []impl.Rows{{}}}, impl.File{Strokes: []impl.Rows{{Values: [][]int64{}}}}
	is(t, "rows", all(impl.SameFile(nilRows, emptyRows), impl.SameFile(nilRows, empty)), all(true, false))
	nilRow, emptyRow := impl.File{Strokes: []impl.Rows{rows(nil)}}, impl.File{Strokes: []impl.Rows{rows(row())}}
	is(t, "values", all(impl.SameFile(nilRow, emptyRow), impl.SameFile(nilRow, nilRows)), all(true, false))
}

func TestChannelNamed(t *testing.T) {
	for want, name := range []string{"x", "y", "t", "p"} {
		at, code := impl.ChannelNamed(plainFile(), name)
		is(t, name, all(at, code), all(int64(want), impl.OK))
	}
	at, code := impl.ChannelNamed(mostOfFile(), "c5")
	is(t, "the last one", all(at, code), all(int64(5), impl.OK))
	for _, name := range []string{"", "z", "X", "xx", "x ", " x", "mm", "cs", "word", "stroke", "x\x00", "\xff", "abcdefghijklm"} {
		at, code := impl.ChannelNamed(plainFile(), name)
		is(t, "none: "+strconv.Quote(name), all(at, code), all(int64(0), impl.ErrNotFound))
	}
	for name, f := range wrongFiles() {
		for _, channel := range []string{"x", "y", "c1", "a", ""} {
			at, code := impl.ChannelNamed(f, channel)
			is(t, name+": "+channel, all(at, code), all(int64(0), impl.ErrInvalid))
		}
	}
}

func TestColumnOf(t *testing.T) {
	cases := map[string][]int64{
		"x": {50, 0, 100, 1, 5, 9},
		"y": {100, 0, 200, 2, 6, 10},
		"t": {1, 2, 3, 400, 500, 900},
		"p": {-10, 10, 0, 4, 8, 7},
	}
	for name, want := range cases {
		column, code := impl.ColumnOf(plainFile(), name)
		is(t, name, all(column, code), all(want, impl.OK))
	}
	column, code := impl.ColumnOf(mostOfFile(), "c2")
	is(t, "the most", all(len(column), column[61], code), all(impl.MaxStrokes*impl.MaxPoints, int64(1012), impl.OK))
	column, code = impl.ColumnOf(impl.File{Channels: penChannels("ms", 0, 9)}, "y")
	is(t, "no strokes", all(column, code), all([]int64{}, impl.OK))
	for _, name := range []string{"", "z", "X", "mm", "x ", "word"} {
		column, code := impl.ColumnOf(plainFile(), name)
		is(t, "none: "+strconv.Quote(name), all(column, code), all([]int64{}, impl.ErrNotFound))
	}
	for name, f := range wrongFiles() {
		for _, channel := range []string{"x", "c1", "a", ""} {
			column, code := impl.ColumnOf(f, channel)
			is(t, name+": "+channel, all(column, code), all([]int64{}, impl.ErrInvalid))
		}
	}
}

func TestFileOfInk(t *testing.T) {
	channels := []impl.Channel{channel("x", "dot", 0, impl.MaxCoord), channel("y", "dot", 0, impl.MaxCoord), channel("t", "ms", 0, impl.MaxTime)}
	cases := map[string]struct {
		i       impl.Ink
		strokes []impl.Rows
	}{
		"no strokes":   {impl.Ink{}, nil},
		"one stroke":   {ink(stroke(point(10, 20, 0), point(30, 25, 8))), []impl.Rows{rows(row(10, 20, 0), row(30, 25, 8))}},
		"two strokes":  {ink(stroke(point(1, 2, 3)), stroke(point(4, 5, 6))), []impl.Rows{rows(row(1, 2, 3)), rows(row(4, 5, 6))}},
		"the least":    {ink(stroke(point(0, 0, 0))), []impl.Rows{rows(row(0, 0, 0))}},
		"the greatest": {ink(stroke(point(impl.MaxCoord, impl.MaxCoord, impl.MaxTime))), []impl.Rows{rows(row(4095, 4095, 3600000))}},
	}
	for name, c := range cases {
		f, code := impl.FileOfInk(c.i)
		is(t, name, all(f, code), all(impl.File{Channels: channels, Strokes: c.strokes}, impl.OK))
		is(t, name+" is valid", impl.ValidFile(f), true)
	}
	f, code := impl.FileOfInk(inkWith(impl.MaxStrokes, impl.MaxPoints))
	is(t, "the most", all(impl.ValidFile(f), len(f.Strokes), len(f.Strokes[15].Values), code), all(true, impl.MaxStrokes, impl.MaxPoints, impl.OK))
	for name, wrong := range wrongInks() {
		f, code := impl.FileOfInk(wrong)
		is(t, name, all(f, code), all(impl.File{}, impl.ErrInvalid))
	}
}

func TestInkOfFile(t *testing.T) {
	i, code := impl.InkOfFile(plainFile())
	want := ink(
		stroke(point(2048, 2048, 10), point(0, 0, 20)),
		stroke(point(4095, 4095, 30)),
		stroke(point(41, 41, 4000), point(205, 123, 5000), point(369, 205, 9000)),
	)
	is(t, "plain", all(i, code), all(want, impl.OK))
	i, code = impl.InkOfFile(impl.File{Channels: penChannels("ms", 0, 9)})
	is(t, "no strokes", all(i, code), all(impl.Ink{}, impl.OK))
	for name, f := range wrongFiles() {
		i, code := impl.InkOfFile(f)
		is(t, name, all(i, code), all(impl.Ink{}, impl.ErrInvalid))
	}
}

// TestChannelsInAnyOrder gives the three channels in all orders, and with another one between them.
func TestChannelsInAnyOrder(t *testing.T) {
	channels := append(penChannels("s", 0, 100), channel("p", "ms", 0, 1000))
	values := row(50, 50, 3, 777)
	want := ink(stroke(point(2048, 1024, 3000)))
	for _, order := range [][]int{
		{0, 1, 2}, {0, 2, 1}, {1, 0, 2}, {1, 2, 0}, {2, 0, 1}, {2, 1, 0},
		{3, 0, 1, 2}, {0, 3, 1, 2}, {2, 3, 1, 0}, {1, 2, 0, 3},
	} {
		var f impl.File
		var one []int64
		for _, k := range order {
			f.Channels = append(f.Channels, channels[k])
			one = append(one, values[k])
		}
		f.Strokes = []impl.Rows{rows(one)}
		i, code := impl.InkOfFile(f)
		is(t, "channels in another order", all(i, code), all(want, impl.OK))
	}
}

// fileAtTimes has strokes of points at these times, all at one place.
func fileAtTimes(unit string, low, high int64, strokes ...[]int64) impl.File {
	f := impl.File{Channels: penChannels(unit, low, high)}
	for _, times := range strokes {
		var r impl.Rows
		for _, at := range times {
			r.Values = append(r.Values, row(0, 0, at))
		}
		f.Strokes = append(f.Strokes, r)
	}
	return f
}

func TestUnitsOfTime(t *testing.T) {
	const most = impl.MaxValue
	cases := []struct {
		f    impl.File
		last int64
		code int64
	}{
		{fileAtTimes("ms", 0, most, row(7)), 7, impl.OK},
		{fileAtTimes("cs", 0, most, row(7)), 70, impl.OK},
		{fileAtTimes("s", 0, most, row(7)), 7000, impl.OK},
		{fileAtTimes("ms", 0, most, row(0, 3600000)), 3600000, impl.OK},
		{fileAtTimes("cs", 0, most, row(0, 360000)), 3600000, impl.OK},
		{fileAtTimes("s", 0, most, row(0, 3600)), 3600000, impl.OK},
		{fileAtTimes("ms", 0, most, row(0, 3600001)), 0, impl.ErrRange},
		{fileAtTimes("cs", 0, most, row(0, 360001)), 0, impl.ErrRange},
		{fileAtTimes("s", 0, most, row(0, 3601)), 0, impl.ErrRange},
		{fileAtTimes("ms", 0, most, row(most)), 0, impl.ErrRange},
		{fileAtTimes("cs", 0, most, row(most)), 0, impl.ErrRange},
		{fileAtTimes("s", 0, most, row(most)), 0, impl.ErrRange},
		{fileAtTimes("s", 0, most, row(4294967)), 0, impl.ErrRange}, // * 1000 is small again in 32 bits
		{fileAtTimes("ms", -most, most, row(-1)), 0, impl.ErrRange},
		{fileAtTimes("cs", -most, most, row(-1)), 0, impl.ErrRange},
		{fileAtTimes("s", -most, most, row(-1)), 0, impl.ErrRange},
		{fileAtTimes("s", -most, most, row(-most)), 0, impl.ErrRange},
		{fileAtTimes("ms", -100, 100, row(0)), 0, impl.OK},
		{fileAtTimes("ms", -100, 100, row(5)), 5, impl.OK},
		{fileAtTimes("cs", 4, 9, row(5)), 50, impl.OK},
		{fileAtTimes("s", 4, 9, row(4)), 4000, impl.OK},
	}
	for k, c := range cases {
		i, code := impl.InkOfFile(c.f)
		last := int64(0)
		if code == impl.OK {
			points := i.Strokes[0].Points
			last = points[len(points)-1].T
		} else {
			is(t, "no ink", i, impl.Ink{})
		}
		is(t, "case "+strconv.Itoa(k), all(last, code), all(c.last, c.code))
	}
}

func TestTimesOfInk(t *testing.T) {
	wrong := map[string]impl.File{
		"equal times":          fileAtTimes("ms", 0, 99, row(5, 5)),
		"falling times":        fileAtTimes("cs", 0, 99, row(5, 4)),
		"third time falls":     fileAtTimes("s", 0, 99, row(5, 7, 6)),
		"equal ends":           fileAtTimes("ms", 0, 99, row(5, 7), row(7, 8)),
		"strokes in each way":  fileAtTimes("ms", 0, 99, row(5, 7), row(6, 8)),
		"strokes turned":       fileAtTimes("ms", 0, 99, row(5, 7), row(1, 2)),
		"third stroke turned":  fileAtTimes("s", 0, 99, row(5, 7), row(8, 9), row(9, 10)),
		"a negative beginning": fileAtTimes("s", -99, 99, row(-1, 7), row(8, 9)),
	}
	for name, f := range wrong {
		i, code := impl.InkOfFile(f)
		is(t, name, all(impl.ValidFile(f), i, code), all(true, impl.Ink{}, impl.ErrRange))
	}
	i, code := impl.InkOfFile(fileAtTimes("cs", -1, 99, row(0, 1), row(2)))
	is(t, "close strokes", all(i, code), all(ink(stroke(point(0, 0, 0), point(0, 0, 10)), stroke(point(0, 0, 20))), impl.OK))
}

func TestMissingChannels(t *testing.T) {
	for k, name := range []string{"x", "y", "t"} {
		f := impl.File{Channels: append(append([]impl.Channel{}, penChannels("ms", 0, 9)[:k]...), penChannels("ms", 0, 9)[k+1:]...)}
		i, code := impl.InkOfFile(f)
		is(t, "without "+name, all(impl.ValidFile(f), i, code), all(true, impl.Ink{}, impl.ErrNotFound))
		f.Channels = append(f.Channels, channel(name+"2", "ms", 0, 9))
		i, code = impl.InkOfFile(f)
		is(t, "another one instead of "+name, all(i, code), all(impl.Ink{}, impl.ErrNotFound))
	}
	i, code := impl.InkOfFile(impl.File{Channels: []impl.Channel{channel("p", "x", 0, 1)}})
	is(t, "none of the three", all(i, code), all(impl.Ink{}, impl.ErrNotFound))
}

func TestOtherUnits(t *testing.T) {
	for _, unit := range []string{"us", "ns", "m", "min", "h", "sec", "mms", "ss", "c", "dot", "mm", "ds", "ms-", "s1"} {
		i, code := impl.InkOfFile(fileAtTimes(unit, 0, 99, row(1)))
		is(t, unit, all(i, code), all(impl.Ink{}, impl.ErrFormat))
		i, code = impl.InkOfFile(fileAtTimes(unit, 0, 99))
		is(t, unit+" without strokes", all(i, code), all(impl.Ink{}, impl.ErrFormat))
		i, code = impl.InkOfFile(fileAtTimes(unit, 0, 99, row(5, 5)))
		is(t, unit+" before the range", all(i, code), all(impl.Ink{}, impl.ErrFormat))
		missing := impl.File{Channels: []impl.Channel{channel("x", "ms", 0, 9), channel("t", unit, 0, 9)}, Strokes: []impl.Rows{rows(row(1, 5), row(1, 5))}}
		i, code = impl.InkOfFile(missing)
		is(t, unit+" behind a missing channel", all(i, code), all(impl.Ink{}, impl.ErrNotFound))
	}
	late := impl.File{Channels: []impl.Channel{channel("y", "mm", 0, 9), channel("t", "ms", 0, 9)}, Strokes: []impl.Rows{rows(row(1, 5), row(1, 5))}}
	i, code := impl.InkOfFile(late)
	is(t, "a missing channel before the range", all(i, code), all(impl.Ink{}, impl.ErrNotFound))
}

func TestUnitsOfPlacesDoNotCount(t *testing.T) {
	f := impl.File{Channels: []impl.Channel{channel("x", "s", 0, 2), channel("y", "cs", 0, 2), channel("t", "ms", 0, 2)}, Strokes: []impl.Rows{rows(row(1, 2, 1))}}
	i, code := impl.InkOfFile(f)
	is(t, "units", all(i, code), all(ink(stroke(point(2048, 4095, 1))), impl.OK))
}

// coordsOf returns what a value becomes in the channel x and in the channel y.
func coordsOf(t *testing.T, low, high, v int64) [2]int64 {
	t.Helper()
	f := impl.File{
		Channels: []impl.Channel{channel("x", "mm", low, high), channel("y", "mm", low, high), channel("t", "ms", 0, 9)},
		Strokes:  []impl.Rows{rows(row(v, v, 1))},
	}
	i, code := impl.InkOfFile(f)
	if code != impl.OK {
		t.Fatalf("value %d of %d to %d: code %d", v, low, high, code)
	}
	return [2]int64{i.Strokes[0].Points[0].X, i.Strokes[0].Points[0].Y}
}

func TestRounding(t *testing.T) {
	const most = impl.MaxValue
	cases := []struct{ low, high, v, want int64 }{
		{0, 100, 50, 2048}, {0, 100, 0, 0}, {0, 100, 100, 4095}, {0, 100, 1, 41}, {0, 100, 99, 4054}, {0, 100, 10, 410}, {0, 100, 30, 1229},
		{0, 2, 1, 2048}, {0, 1, 0, 0}, {0, 1, 1, 4095}, {-1, 1, 0, 2048}, {-50, 50, 0, 2048}, {-100, 0, -50, 2048}, {-100, -98, -99, 2048}, {7, 107, 57, 2048},
		{0, 8190, 1, 1}, {0, 8190, 2, 1}, {0, 8190, 3, 2}, {0, 8190, 5, 3}, {0, 8190, 8189, 4095},
		{-4095, 4095, -4094, 1}, {-4095, 4095, -4092, 2}, {-4095, 4095, 0, 2048}, {-4095, 4095, 4094, 4095},
		{0, 8191, 1, 0}, {0, 8191, 2, 1}, {0, 8189, 1, 1}, {0, 4095, 1234, 1234}, {0, 4096, 1, 1}, {0, 4096, 2048, 2048}, {0, 4096, 2049, 2048},
		{-most, most, -most, 0}, {-most, most, most, 4095}, {-most, most, 0, 2048}, {-most, most, -1, 2047}, {-most, most, 1, 2048},
		{most - 1, most, most, 4095}, {-most, 1 - most, -most, 0}, {-most, 2 - most, 1 - most, 2048},
	}
	for _, c := range cases {
		name := impl.Decimal(c.v) + " of " + impl.Decimal(c.low) + " to " + impl.Decimal(c.high)
		is(t, name, coordsOf(t, c.low, c.high, c.v), [2]int64{c.want, c.want})
	}
}

// TestRoundingExactly compares with fractions: the coordinate plus a half, rounded down.
func TestRoundingExactly(t *testing.T) {
	s := source(8)
	for range 3000 {
		low := s.below(2*impl.MaxValue) - impl.MaxValue
		width := 1 + s.below(impl.MaxValue-low)
		if s.below(2) == 0 {
			width = min(width, 1+s.below(9000))
		}
		v := low + s.below(width+1)
		exact := new(big.Rat).Mul(big.NewRat(v-low, width), big.NewRat(impl.MaxCoord, 1))
		exact.Add(exact, big.NewRat(1, 2))
		want := new(big.Int).Quo(exact.Num(), exact.Denom()).Int64()
		is(t, "value", coordsOf(t, low, low+width, v), [2]int64{want, want})
	}
}

// TestPlacesHaveTheirOwnEnds has different ends for x and y.
func TestPlacesHaveTheirOwnEnds(t *testing.T) {
	f := impl.File{
		Channels: []impl.Channel{channel("y", "mm", -10, 90), channel("x", "mm", 10, 20), channel("t", "ms", 0, 9)},
		Strokes:  []impl.Rows{rows(row(15, 15, 1))},
	}
	i, code := impl.InkOfFile(f)
	is(t, "places", all(i, code), all(ink(stroke(point(2048, 1024, 1))), impl.OK))
}

func TestAddNote(t *testing.T) {
	for _, n := range []impl.Note{note(0, 1, "a"), note(0, 3, "abcdefghijkl"), note(2, 3, "pen-3"), note(1, 3, "word"), note(0, 1, "word")} {
		f, code := impl.AddNote(plainFile(), n)
		is(t, n.Text, all(f, code), all(changed(func(f *impl.File) { f.Notes = append(f.Notes, n) }), impl.OK))
	}
	f, code := impl.AddNote(fileWith(1, 1, 1, 0), note(0, 1, "n0"))
	is(t, "the first one", all(f, code), all(fileWith(1, 1, 1, 1), impl.OK))
	f, code = impl.AddNote(fileWith(2, impl.MaxStrokes, 2, impl.MaxNotes-1), note(0, 1, "n11"))
	is(t, "up to the limit", all(f, code), all(fileWith(2, impl.MaxStrokes, 2, impl.MaxNotes), impl.OK))
	f, code = impl.AddNote(fileWith(2, impl.MaxStrokes, 2, 0), note(0, impl.MaxStrokes, "a"))
	is(t, "on most strokes", all(len(f.Notes), code), all(1, impl.OK))
}

func TestAddNoteErrors(t *testing.T) {
	full := fileWith(2, 3, 2, impl.MaxNotes)
	add := func(name string, f impl.File, n impl.Note, want int64) {
		t.Helper()
		result, code := impl.AddNote(f, n)
		is(t, name, all(result, code), all(impl.File{}, want))
	}
	add("full", full, note(0, 1, "a"), impl.ErrFull)
	for name, n := range wrongNotes() {
		add(name, plainFile(), n, impl.ErrRange)
		add("range before full: "+name, full, n, impl.ErrRange)
		n.Text = "A"
		add("range before syntax: "+name, plainFile(), n, impl.ErrRange)
		add("range before both: "+name, full, n, impl.ErrRange)
	}
	for name, text := range wrongTexts() {
		add(name, plainFile(), note(0, 1, text), impl.ErrSyntax)
		add("syntax before full: "+name, full, note(0, 1, text), impl.ErrSyntax)
	}
	bare := impl.File{Channels: penChannels("ms", 0, 9)}
	for _, n := range []impl.Note{note(0, 0, "a"), note(0, 1, "a"), {}} {
		add("no strokes", bare, n, impl.ErrRange)
	}
	for name, wrong := range wrongFiles() {
		add("invalid: "+name, wrong, note(0, 1, "a"), impl.ErrInvalid)
		add("invalid before range: "+name, wrong, note(-1, 99, ""), impl.ErrInvalid)
		add("invalid before syntax: "+name, wrong, note(0, 1, ""), impl.ErrInvalid)
	}
}

func TestNotesOf(t *testing.T) {
	for at, want := range [][]string{{"word", "line"}, {"line", "pen-3"}, {"line"}} {
		texts, code := impl.NotesOf(plainFile(), int64(at))
		is(t, "stroke "+strconv.Itoa(at), all(texts, code), all(want, impl.OK))
	}
	twice := changed(func(f *impl.File) { f.Notes = []impl.Note{note(1, 3, "b"), note(0, 2, "a"), note(1, 2, "b")} })
	texts, code := impl.NotesOf(twice, 1)
	is(t, "equal texts", all(texts, code), all([]string{"b", "a", "b"}, impl.OK))
	texts, code = impl.NotesOf(mostOfFile(), 0)
	is(t, "the most", all(len(texts), texts[11], code), all(impl.MaxNotes, "n11", impl.OK))
	texts, code = impl.NotesOf(mostOfFile(), impl.MaxStrokes-1)
	is(t, "none on the last one", all(texts, code), all([]string{}, impl.OK))
	texts, code = impl.NotesOf(fileWith(1, 1, 1, 0), 0)
	is(t, "no notes", all(texts, code), all([]string{}, impl.OK))
}

func TestNotesOfErrors(t *testing.T) {
	for _, at := range []int64{-1, 3, 4, leastInt, greatestInt, 1 << 32} {
		texts, code := impl.NotesOf(plainFile(), at)
		is(t, "stroke "+impl.Decimal(at), all(texts, code), all([]string{}, impl.ErrRange))
	}
	texts, code := impl.NotesOf(impl.File{Channels: penChannels("ms", 0, 9)}, 0)
	is(t, "no strokes", all(texts, code), all([]string{}, impl.ErrRange))
	for name, f := range wrongFiles() {
		for _, at := range []int64{0, -1, 99} {
			texts, code := impl.NotesOf(f, at)
			is(t, name, all(texts, code), all([]string{}, impl.ErrInvalid))
		}
	}
}
