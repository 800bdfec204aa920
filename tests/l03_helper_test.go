package tests

import (
	"strconv"

	"loop.example/g00918/impl"
)

func channel(name, unit string, low, high int64) impl.Channel {
	return impl.Channel{Name: name, Unit: unit, Low: low, High: high}
}

func note(from, to int64, text string) impl.Note { return impl.Note{From: from, To: to, Text: text} }

func row(values ...int64) []int64 { return values }

func rows(list ...[]int64) impl.Rows { return impl.Rows{Values: list} }

// penChannels are the channels of ink, with the unit of the time and its ends.
func penChannels(unit string, low, high int64) []impl.Channel {
	return []impl.Channel{channel("x", "mm", 0, 100), channel("y", "mm", 0, 200), channel("t", unit, low, high)}
}

// plainFile is a file with some of everything; each call makes a new one.
func plainFile() impl.File {
	return impl.File{
		Channels: append(penChannels("cs", -50, 900), channel("p", "none", -10, 10)),
		Strokes: []impl.Rows{
			rows(row(50, 100, 1, -10), row(0, 0, 2, 10)),
			rows(row(100, 200, 3, 0)),
			rows(row(1, 2, 400, 4), row(5, 6, 500, 8), row(9, 10, 900, 7)),
		},
		Notes: []impl.Note{note(0, 1, "word"), note(0, 3, "line"), note(1, 2, "pen-3")},
	}
}

const plainText = "channel x mm 0 100\nchannel y mm 0 200\nchannel t cs -50 900\nchannel p none -10 10\n" +
	"stroke 50,100,1,-10 0,0,2,10\nstroke 100,200,3,0\nstroke 1,2,400,4 5,6,500,8 9,10,900,7\n" +
	"note 0 1 word\nnote 0 3 line\nnote 1 2 pen-3\n"

// fileWith returns a valid file with so many of everything; its notes are on the first stroke.
func fileWith(channels, strokes, points, notes int64) impl.File {
	var f impl.File
	for k := range channels {
		f.Channels = append(f.Channels, channel("c"+strconv.FormatInt(k, 10), "dot", -k, 100000))
	}
	for s := range strokes {
		var stroke impl.Rows
		for p := range points {
			var values []int64
			for k := range channels {
				values = append(values, s*1000+p*10+k)
			}
			stroke.Values = append(stroke.Values, values)
		}
		f.Strokes = append(f.Strokes, stroke)
	}
	for k := range notes {
		f.Notes = append(f.Notes, note(0, 1, "n"+strconv.FormatInt(k, 10)))
	}
	return f
}

func mostOfFile() impl.File {
	return fileWith(impl.MaxChannels, impl.MaxStrokes, impl.MaxPoints, impl.MaxNotes)
}

// changed returns the plain file with a change.
func changed(change func(f *impl.File)) impl.File {
	f := plainFile()
	change(&f)
	return f
}

// wrongFiles are invalid, each for one reason.
func wrongFiles() map[string]impl.File {
	files := map[string]impl.File{
		"nothing":           {},
		"no channels":       {Channels: []impl.Channel{}, Strokes: []impl.Rows{}, Notes: []impl.Note{}},
		"too many channels": fileWith(impl.MaxChannels+1, 2, 2, 2),
		"too many strokes":  fileWith(2, impl.MaxStrokes+1, 2, 2),
		"too many rows":     fileWith(2, 2, impl.MaxPoints+1, 2),
		"too many notes":    fileWith(2, 2, 2, impl.MaxNotes+1),
		"strokes only":      {Strokes: []impl.Rows{rows(row())}},
		"equal channels":    changed(func(f *impl.File) { f.Channels[3] = f.Channels[0] }),
		"equal names":       changed(func(f *impl.File) { f.Channels[3].Name = "t" }),
		"first names equal": changed(func(f *impl.File) { f.Channels[1].Name = "x" }),
	}
	for name, c := range wrongChannels() {
		files["only channel: "+name] = impl.File{Channels: []impl.Channel{c}}
		files["last channel: "+name] = impl.File{Channels: append(penChannels("ms", 0, 9), c)}
	}
	for name, r := range wrongRows() {
		files["first stroke: "+name] = changed(func(f *impl.File) { f.Strokes[0] = r })
		files["last stroke: "+name] = changed(func(f *impl.File) { f.Strokes[2] = r })
	}
	for name, n := range wrongNotes() {
		files["first note: "+name] = changed(func(f *impl.File) { f.Notes[0] = n })
		files["last note: "+name] = changed(func(f *impl.File) { f.Notes[2] = n })
	}
	for name, n := range wrongTexts() {
		files["note: "+name] = changed(func(f *impl.File) { f.Notes[1] = note(0, 3, n) })
	}
	return files
}

func wrongChannels() map[string]impl.Channel {
	channels := map[string]impl.Channel{
		"zero":               {},
		"equal ends":         channel("a", "mm", 5, 5),
		"both ends 0":        channel("a", "mm", 0, 0),
		"ends exchanged":     channel("a", "mm", 6, 5),
		"Low too small":      channel("a", "mm", -impl.MaxValue-1, 0),
		"High too great":     channel("a", "mm", 0, impl.MaxValue+1),
		"both too small":     channel("a", "mm", -impl.MaxValue-2, -impl.MaxValue-1),
		"both too great":     channel("a", "mm", impl.MaxValue+1, impl.MaxValue+2),
		"the whole numbers":  channel("a", "mm", leastInt, greatestInt),
		"the ends exchanged": channel("a", "mm", greatestInt, leastInt),
	}
	for name, s := range wrongTexts() {
		channels["name: "+name] = channel(s, "mm", 0, 5)
		channels["unit: "+name] = channel("a", s, 0, 5)
	}
	return channels
}

// wrongTexts are no names.
func wrongTexts() map[string]string {
	return map[string]string{
		"empty": "", "too long": "abcdefghijklm", "a digit first": "1a", "a hyphen first": "-a", "capitals": "Ab",
		"a blank": "a b", "a newline": "a\n", "a comma": "a,b", "another letter": "ä", "another byte": "a\xff", "NUL": "a\x00",
	}
}

// wrongRows do not fit the channels of the plain file.
func wrongRows() map[string]impl.Rows {
	good := row(50, 100, 1, -10)
	return map[string]impl.Rows{
		"no rows":             {},
		"empty rows":          rows([][]int64{}...),
		"an empty row":        rows(row()),
		"a nil row":           rows(good, nil),
		"a short row":         rows(row(50, 100, 1)),
		"a long row":          rows(row(50, 100, 1, -10, 0)),
		"a later short row":   rows(good, row(50, 100, 1)),
		"a later long row":    rows(good, row(50, 100, 1, -10, 0)),
		"first value below":   rows(row(-1, 100, 1, -10)),
		"first value above":   rows(row(101, 100, 1, -10)),
		"time below":          rows(row(50, 100, -51, -10)),
		"time above":          rows(row(50, 100, 901, -10)),
		"last value below":    rows(row(50, 100, 1, -11)),
		"last value above":    rows(row(50, 100, 1, 11)),
		"later value above":   rows(good, row(101, 100, 1, -10)),
		"the least integer":   rows(row(leastInt, 100, 1, -10)),
		"the greatest number": rows(row(greatestInt, 100, 1, -10)),
	}
}

// wrongNotes are not on strokes of the plain file.
func wrongNotes() map[string]impl.Note {
	return map[string]impl.Note{
		"From negative":      note(-1, 1, "word"),
		"no strokes":         note(1, 1, "word"),
		"no strokes at 0":    note(0, 0, "word"),
		"no strokes at last": note(3, 3, "word"),
		"ends exchanged":     note(2, 1, "word"),
		"To too great":       note(0, 4, "word"),
		"both behind":        note(3, 4, "word"),
		"both negative":      note(-2, -1, "word"),
		"the whole numbers":  note(leastInt, greatestInt, "word"),
		"the ends exchanged": note(greatestInt, leastInt, "word"),
		"both the least":     note(leastInt, leastInt, "word"),
		"both the greatest":  note(greatestInt, greatestInt, "word"),
		"0 to the least":     note(0, leastInt, "word"),
	}
}

// randomFile returns a valid file, whose values often are the ends of their channels.
func randomFile(s *source) impl.File {
	var f impl.File
	names := []string{"x", "y", "t", "p", "tilt-x", "abcdefghijkl", "z9", "t2"}
	from := s.below(8)
	for k := range 1 + s.below(impl.MaxChannels) {
		low := s.below(2*impl.MaxValue) - impl.MaxValue
		high := low + 1 + s.below(impl.MaxValue-low)
		f.Channels = append(f.Channels, channel(names[(from+k)%8], names[s.below(8)], low, high))
	}
	for range s.below(impl.MaxStrokes + 1) {
		var stroke impl.Rows
		for range 1 + s.below(8) {
			stroke.Values = append(stroke.Values, randomRow(s, f.Channels))
		}
		f.Strokes = append(f.Strokes, stroke)
	}
	n := int64(len(f.Strokes))
	for n > 0 && int64(len(f.Notes)) < s.below(impl.MaxNotes+1) {
		begin := s.below(n)
		f.Notes = append(f.Notes, note(begin, begin+1+s.below(n-begin), names[s.below(8)]))
	}
	return f
}

func randomRow(s *source, channels []impl.Channel) []int64 {
	var values []int64
	for _, c := range channels {
		switch s.below(4) {
		case 0:
			values = append(values, c.Low)
		case 1:
			values = append(values, c.High)
		default:
			values = append(values, c.Low+s.below(c.High-c.Low+1))
		}
	}
	return values
}

// sampleFiles are valid and invalid files of all sorts.
func sampleFiles() []impl.File {
	files := []impl.File{plainFile(), mostOfFile(), {Channels: penChannels("s", 0, 9)}}
	for _, f := range wrongFiles() {
		files = append(files, f)
	}
	s := source(7)
	for range 20 {
		files = append(files, randomFile(&s))
	}
	for _, i := range sampleInks() {
		f, _ := impl.FileOfInk(i)
		files = append(files, f)
	}
	return files
}
