package impl

import (
	"slices"
	"strings"
)

// Limits of ink.
const (
	MaxCoord   = 4095
	MaxTime    = 3600000
	MaxPoints  = 60
	MaxStrokes = 16
)

// Point is a point of a stroke.
type Point struct {
	X int64
	Y int64
	T int64
}

// Stroke are the points from pen down to pen up.
type Stroke struct {
	Points []Point
}

// Ink are strokes in the order in which they have been written.
type Ink struct {
	Strokes []Stroke
}

// Box is a rectangle.
type Box struct {
	X1 int64
	Y1 int64
	X2 int64
	Y2 int64
}

// ValidStroke reports whether s is valid.
func ValidStroke(s Stroke) bool {
	if len(s.Points) < 1 || len(s.Points) > MaxPoints {
		return false
	}
	for at, p := range s.Points {
		if !p.inRange() || at > 0 && p.T <= s.Points[at-1].T {
			return false
		}
	}
	return true
}

// ValidInk reports whether i is valid.
func ValidInk(i Ink) bool {
	if len(i.Strokes) > MaxStrokes {
		return false
	}
	for at, s := range i.Strokes {
		if !ValidStroke(s) || at > 0 && !beginsLater(s, i.Strokes[at-1]) {
			return false
		}
	}
	return true
}

// SameInk reports whether two inks are equal.
func SameInk(a, b Ink) bool {
	return slices.EqualFunc(a.Strokes, b.Strokes, sameStroke)
}

// ValidBox reports whether b is valid.
func ValidBox(b Box) bool {
	return 0 <= b.X1 && b.X1 <= b.X2 && b.X2 <= MaxCoord &&
		0 <= b.Y1 && b.Y1 <= b.Y2 && b.Y2 <= MaxCoord
}

// BoxOfStroke returns the box of a stroke.
func BoxOfStroke(s Stroke) (Box, int64) {
	if !ValidStroke(s) {
		return Box{}, ErrInvalid
	}
	return boxAt(s.Points[0]).grown(s.Points...), OK
}

// BoxOfInk returns the box of all strokes.
func BoxOfInk(i Ink) (Box, int64) {
	if !ValidInk(i) {
		return Box{}, ErrInvalid
	}
	if len(i.Strokes) == 0 {
		return Box{}, ErrState
	}
	box := boxAt(i.Strokes[0].Points[0])
	for _, s := range i.Strokes {
		box = box.grown(s.Points...)
	}
	return box, OK
}

// JoinBoxes returns the least box around two boxes.
func JoinBoxes(a, b Box) (Box, int64) {
	if !ValidBox(a) || !ValidBox(b) {
		return Box{}, ErrInvalid
	}
	return a.grown(Point{X: b.X1, Y: b.Y1}, Point{X: b.X2, Y: b.Y2}), OK
}

// AddStroke adds a stroke.
func AddStroke(i Ink, s Stroke) (Ink, int64) {
	if !ValidInk(i) || !ValidStroke(s) {
		return Ink{}, ErrInvalid
	}
	n := len(i.Strokes)
	if n == MaxStrokes {
		return Ink{}, ErrFull
	}
	if n > 0 && !beginsLater(s, i.Strokes[n-1]) {
		return Ink{}, ErrState
	}
	return Ink{Strokes: append(copyStrokes(i.Strokes), copyStroke(s))}, OK
}

// CutInk returns some of the strokes.
func CutInk(i Ink, from, to int64) (Ink, int64) {
	if !ValidInk(i) {
		return Ink{}, ErrInvalid
	}
	if from < 0 || from > to || to > int64(len(i.Strokes)) {
		return Ink{}, ErrRange
	}
	return Ink{Strokes: copyStrokes(i.Strokes[from:to])}, OK
}

// MoveInk returns the ink at another place.
func MoveInk(i Ink, dx, dy int64) (Ink, int64) {
	if !ValidInk(i) {
		return Ink{}, ErrInvalid
	}
	way := Point{X: dx, Y: dy}
	moved := changePoints(i, way.plus)
	// A coordinate plus a number never wraps around into the range of coordinates,
	// so that it is enough to check the sums; and ink without strokes may move by any number.
	if !ValidInk(moved) {
		return Ink{}, ErrRange
	}
	return moved, OK
}

// PointCount returns the number of points.
func PointCount(i Ink) (int64, int64) {
	if !ValidInk(i) {
		return 0, ErrInvalid
	}
	count := 0
	for _, s := range i.Strokes {
		count += len(s.Points)
	}
	return int64(count), OK
}

// InkText returns the text form of ink.
func InkText(i Ink) string {
	if !ValidInk(i) {
		return ""
	}
	var text strings.Builder
	for _, s := range i.Strokes {
		for at, p := range s.Points {
			if at > 0 {
				text.WriteByte(' ')
			}
			text.WriteString(p.text())
		}
		text.WriteByte('\n')
	}
	return text.String()
}

// ReadInk returns the ink with a text form.
func ReadInk(s string) (Ink, bool) {
	var i Ink
	for rest := s; rest != ""; {
		line, behind, ended := strings.Cut(rest, "\n")
		stroke, ok := readStroke(line)
		if !ended || !ok {
			return Ink{}, false
		}
		i.Strokes = append(i.Strokes, stroke)
		rest = behind
	}
	if !ValidInk(i) {
		return Ink{}, false
	}
	return i, true
}

func (p Point) inRange() bool {
	return 0 <= p.X && p.X <= MaxCoord && 0 <= p.Y && p.Y <= MaxCoord && 0 <= p.T && p.T <= MaxTime
}

func (p Point) plus(q Point) Point {
	return Point{X: p.X + q.X, Y: p.Y + q.Y, T: p.T + q.T}
}

func (p Point) text() string {
	return Decimal(p.X) + "," + Decimal(p.Y) + "," + Decimal(p.T)
}

func boxAt(p Point) Box { return Box{X1: p.X, Y1: p.Y, X2: p.X, Y2: p.Y} }

// grown returns the least box around b and the points.
func (b Box) grown(points ...Point) Box {
	for _, p := range points {
		b.X1, b.X2 = min(b.X1, p.X), max(b.X2, p.X)
		b.Y1, b.Y2 = min(b.Y1, p.Y), max(b.Y2, p.Y)
	}
	return b
}

// beginsLater reports whether s begins later than before has ended; both have points.
func beginsLater(s, before Stroke) bool {
	return s.Points[0].T > before.Points[len(before.Points)-1].T
}

func sameStroke(a, b Stroke) bool { return slices.Equal(a.Points, b.Points) }

func copyStroke(s Stroke) Stroke { return Stroke{Points: slices.Clone(s.Points)} }

func copyStrokes(list []Stroke) []Stroke {
	copies := make([]Stroke, 0, len(list))
	for _, s := range list {
		copies = append(copies, copyStroke(s))
	}
	return copies
}

// changePoints returns a copy of the ink with each point replaced by what change makes of it.
func changePoints(i Ink, change func(Point) Point) Ink {
	strokes := copyStrokes(i.Strokes)
	for _, s := range strokes {
		for at, p := range s.Points {
			s.Points[at] = change(p)
		}
	}
	return Ink{Strokes: strokes}
}

func readStroke(line string) (Stroke, bool) {
	var s Stroke
	for _, word := range strings.Split(line, " ") {
		p, ok := readPoint(word)
		if !ok {
			return Stroke{}, false
		}
		s.Points = append(s.Points, p)
	}
	return s, true
}

func readPoint(word string) (Point, bool) {
	numbers, ok := readTriple(word)
	if !ok {
		return Point{}, false
	}
	return Point{X: numbers[0], Y: numbers[1], T: numbers[2]}, true
}
