package tests

import (
	"cmp"
	"slices"

	"loop.example/g00918/impl"
)

// What follows states chapter 14 in another way, without the program's functions.

func group(from, to int64) impl.Group { return impl.Group{From: from, To: to} }

// groups returns a list of groups: From and To of each, in turn.
func groups(numbers ...int64) []impl.Group {
	var list []impl.Group
	for at := 0; at < len(numbers); at += 2 {
		list = append(list, group(numbers[at], numbers[at+1]))
	}
	return list
}

// letter returns a stroke that is no dot, from an X to another one.
func letter(x1, x2 int64) impl.Stroke { return path(x1, 300, (x1+x2)/2, 500, x2, 400) }

// speck returns a stroke that is a dot, from an X to another one.
func speck(x1, x2 int64) impl.Stroke { return path(x1, 100, x2, 103) }

// columnsFor counts the common integers of a dot and a stroke, one by one.
func columnsFor(dot, other impl.Box) int64 {
	count := int64(0)
	for x := dot.X1 - 40; x <= dot.X2+40; x++ {
		if other.X1 <= x && x <= other.X2 {
			count++
		}
	}
	return count
}

func isSmall(b impl.Box) bool { return b.X2-b.X1 <= 160 && b.Y2-b.Y1 <= 160 }

// homeFor returns the home that HomeOf has to return for a stroke of valid ink: it looks back for the first stroke
// that no other one is better than.
func homeFor(i impl.Ink, index int64) int64 {
	boxes := boxesIn(i)
	dot := boxes[index]
	if !isSmall(dot) {
		return -1
	}
	home, best := int64(-1), int64(0)
	for at := index - 1; at >= 0; at-- {
		if columns := columnsFor(dot, boxes[at]); !isSmall(boxes[at]) && columns > best {
			home, best = at, columns
		}
	}
	return home
}

// orderFor returns the order of valid ink: the strokes are sorted by the one at which they stand, and this one stands first.
func orderFor(i impl.Ink) []int64 {
	var order []int64
	stands := func(index int64) int64 {
		if home := homeFor(i, index); home >= 0 {
			return home
		}
		return index
	}
	for at := range i.Strokes {
		order = append(order, int64(at))
	}
	slices.SortFunc(order, func(a, b int64) int { return cmp.Or(cmp.Compare(stands(a), stands(b)), cmp.Compare(a, b)) })
	return order
}

// groupsFor returns the groups of so many places: of all pairs of numbers those that are not too far apart.
func groupsFor(count int64) []impl.Group {
	var list []impl.Group
	for from := range count + 1 {
		for to := range count + 1 {
			if difference := to - from; difference >= 1 && difference <= 3 {
				list = append(list, group(from, to))
			}
		}
	}
	return list
}

// inkFor returns the ink of a group: each stroke of ink whose place in the order is within the group.
func inkFor(i impl.Ink, order []int64, g impl.Group) impl.Ink {
	var with impl.Ink
	for at, s := range i.Strokes {
		if place := int64(slices.Index(order, int64(at))); g.From <= place && place < g.To {
			with.Strokes = append(with.Strokes, s)
		}
	}
	return with
}

// gapsFor returns the gap in front of each place of valid ink but the first one: the least one of the gaps behind all strokes before it.
func gapsFor(i impl.Ink) []int64 {
	boxes, order := boxesIn(i), orderFor(i)
	var gaps []int64
	for place, index := range order {
		var behind []int64
		for _, before := range order[:place] {
			behind = append(behind, boxes[index].X1-boxes[before].X2)
		}
		if place > 0 {
			gaps = append(gaps, slices.Min(behind))
		}
	}
	return gaps
}

// splitFor returns the groups of so many places between wide gaps, from the last one on.
func splitFor(count int, gaps []int64, wide int64) []impl.Group {
	var list []impl.Group
	end := int64(count)
	for place := end - 1; place >= 0; place-- {
		if place == 0 || gaps[place-1] >= wide {
			list = append(list, group(place, end))
			end = place
		}
	}
	slices.Reverse(list)
	return list
}

// randomWriting returns valid ink with letters and dots that often lie near each other.
func randomWriting(s *source, most int64) impl.Ink {
	width := row(300, 600, 1500, 4095)[s.below(4)]
	var strokes []impl.Stroke
	for range s.below(most + 1) {
		side := row(0, 20, 80, 160, 161, 162, 300)[s.below(7)]
		x1 := s.below(width - side + 1)
		x2, y := x1+s.below(side+1), s.below(3000)
		if s.below(2) == 0 {
			x2 = x1 + side
		}
		height := row(0, 50, 160, 161, 400)[s.below(5)]
		strokes = append(strokes, path(x1, y, x2, y+height, x1+(x2-x1)/2, y))
	}
	return inkOf(strokes...)
}

// sorts are strokes of which some are dots, and some lie as near to others as a home does, or by one less.
func sorts() []impl.Stroke {
	return []impl.Stroke{letter(100, 300), letter(250, 420), speck(340, 340), speck(341, 350), letter(600, 800), speck(290, 310)}
}

// smallWritings are all inks of at most so many strokes of these sorts.
func smallWritings(most int) []impl.Ink {
	lists := [][]impl.Stroke{{}}
	for at := 0; len(lists[at]) < most; at++ {
		for _, s := range sorts() {
			lists = append(lists, append(slices.Clone(lists[at]), s))
		}
	}
	var inks []impl.Ink
	for _, list := range lists {
		inks = append(inks, inkOf(list...))
	}
	return inks
}

// manyWritings are valid ink of all sorts.
func manyWritings(s *source) []impl.Ink {
	inks := append(manyInks(s), ink(), impl.Ink{Strokes: []impl.Stroke{}}, theInk())
	for range 250 {
		inks = append(inks, randomWriting(s, impl.MaxStrokes))
	}
	return inks
}

// theInk has the dot of an i written behind the letters that follow; the last stroke is the bar of a t, which is too long for a dot.
func theInk() impl.Ink {
	return inkOf(letter(100, 280), letter(350, 520), letter(600, 780), speck(420, 430), path(60, 250, 300, 250))
}
