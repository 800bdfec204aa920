package tests

import (
	"strconv"
	"strings"
	"testing"

	"loop.example/g00918/impl"
)

// What follows states chapter 4 with texts of digits, without the program's functions.

// numberText returns n in width binary digits.
func numberText(n, width int64) string {
	digits := strconv.FormatInt(n, 2)
	return strings.Repeat("0", int(width)-len(digits)) + digits
}

func numberOf(digits string) int64 {
	n, _ := strconv.ParseInt("0"+digits, 2, 64)
	return n
}

// foldText returns the u of a number in 40 binary digits.
func foldText(n int64) string {
	if n < 0 {
		return numberText(-2*n-1, 40)
	}
	return numberText(2*n, 40)
}

func unfold(u int64) int64 {
	if u%2 == 0 {
		return u / 2
	}
	return -(u + 1) / 2
}

func ones(count int64) string { return strings.Repeat("1", int(count)) }

// longText is the code of MaxUnary ones and u, which need not be right.
func longText(u int64) string { return ones(impl.MaxUnary) + numberText(u, 32) }

// riceText returns the Rice code of a number, also with a parameter above MaxRice.
func riceText(n, k int64) string {
	digits := foldText(n)
	quotient := numberOf(digits[:40-k])
	if quotient >= impl.MaxUnary {
		return longText(numberOf(digits))
	}
	return ones(quotient) + "0" + digits[40-k:]
}

// readText reads the Rice code with the parameter k at the beginning of a text, and returns its number and length.
func readText(rest string, k int64) (int64, int64, int64) {
	count := int64(len(rest) - len(strings.TrimLeft(rest, "1")))
	if count < impl.MaxUnary {
		length := count + 1 + k
		if int64(len(rest)) < length {
			return 0, 0, impl.ErrTruncated
		}
		return unfold(numberOf(numberText(count, 8) + rest[count+1:length])), length, impl.OK
	}
	if len(rest) < impl.MaxUnary+32 {
		return 0, 0, impl.ErrTruncated
	}
	n := unfold(numberOf(rest[impl.MaxUnary : impl.MaxUnary+32]))
	if n < -impl.MaxResidual || n > impl.MaxResidual || riceText(n, k) != rest[:impl.MaxUnary+32] {
		return 0, 0, impl.ErrFormat
	}
	return n, impl.MaxUnary + 32, impl.OK
}

func packText(bits string) string {
	var packed []byte
	for bits += strings.Repeat("0", (8-len(bits)%8)%8); bits != ""; bits = bits[8:] {
		packed = append(packed, byte(numberOf(bits[:8])))
	}
	return string(packed)
}

// sumText returns the checksum of bytes: the last byte counts once, each one before it 257 times as much, and the 1 most.
func sumText(s string) int64 {
	sum, power := int64(0), int64(1)
	for at := len(s) - 1; at >= 0; at-- {
		sum += int64(s[at]) * power
		power = power * 257 % 65521
	}
	return (sum + power) % 65521
}

// summed returns bytes with their checksum at the end.
func summed(s string) string {
	sum := sumText(s)
	return s + string([]byte{byte(sum / 256), byte(sum % 256)})
}

// formText returns bits as a compressed form with a checksum that is right.
func formText(bits string) string { return summed("IK" + packText(bits)) }

func differences(list []int64) []int64 {
	var result []int64
	for at, n := range list {
		switch at {
		case 0:
			result = append(result, n)
		case 1:
			result = append(result, n-list[0])
		default:
			result = append(result, n-(2*list[at-1]-list[at-2]))
		}
	}
	return result
}

// codesText returns the Rice codes of numbers, one behind the other.
func codesText(list []int64, k int64) string {
	text := ""
	for _, n := range list {
		text += riceText(n, k)
	}
	return text
}

// bestText returns the parameter that BestRice has to return, and the codes with it.
func bestText(list []int64) (int64, string) {
	best, codes := int64(0), codesText(list, 0)
	for k := range int64(13) {
		if text := codesText(list, k); len(text) < len(codes) {
			best, codes = k, text
		}
	}
	return best, codes
}

// columnWith returns a column of a stroke with a parameter.
func columnWith(k int64, list ...int64) string {
	return numberText(k, 4) + codesText(differences(list), k)
}

func columnText(list ...int64) string {
	k, codes := bestText(differences(list))
	return numberText(k, 4) + codes
}

// pointsText returns a stroke in the compressed form; it need not be valid.
func pointsText(points ...impl.Point) string {
	var x, y, t []int64
	for _, p := range points {
		x, y, t = append(x, p.X), append(y, p.Y), append(t, p.T)
	}
	return numberText(int64(len(points)), 8) + columnText(x...) + columnText(y...) + columnText(t...)
}

// inkBits returns the bits of the compressed form of ink, which need not be valid.
func inkBits(i impl.Ink) string {
	bits := numberText(int64(len(i.Strokes)), 8)
	for _, s := range i.Strokes {
		bits += pointsText(s.Points...)
	}
	return bits
}

// decodes checks DecodeInk of bytes of any kind, and reports whether they are a compressed form.
func decodes(t *testing.T, name, s string) bool {
	t.Helper()
	i, code := impl.DecodeInk(s)
	switch {
	case len(s) < 5:
		is(t, name+": truncated", all(i, code), all(impl.Ink{}, impl.ErrTruncated))
	case s[:2] != "IK":
		is(t, name+": begins in another way", all(i, code), all(impl.Ink{}, impl.ErrFormat))
	case summed(s[:len(s)-2]) != s:
		is(t, name+": checksum", all(i, code), all(impl.Ink{}, impl.ErrSum))
	case code != impl.OK:
		is(t, name+": no compressed form", all(i, code), all(impl.Ink{}, impl.ErrFormat))
	default:
		is(t, name+": the form of valid ink", all(impl.ValidInk(i), formText(inkBits(i))), all(true, s))
	}
	return code == impl.OK
}

// refused checks that bits are not the compressed form of valid ink, with a checksum that is right.
func refused(t *testing.T, name, bits string) {
	t.Helper()
	i, code := impl.DecodeInk(formText(bits))
	is(t, name, all(i, code), all(impl.Ink{}, impl.ErrFormat))
}

// otherBits are no bits.
func otherBits() []string {
	most := strings.Repeat("0", impl.MaxBits)
	return []string{
		"2", "/", " ", "\n", "\x00", "\x01", "\xff", "é", "012", "0 1", " 01", "01 ", "01\n", "0\x001", "１",
		most + "0", most + "1", most[1:] + "2", "x" + most[1:], most + most,
	}
}

// edgeInks are valid, and as different as the limits allow.
func edgeInks() []impl.Ink {
	var far, slow, quick impl.Ink
	for s := range int64(impl.MaxStrokes) {
		var jumps, pauses, steps impl.Stroke
		for p := range int64(impl.MaxPoints) {
			at := s*impl.MaxPoints + p
			jumps.Points = append(jumps.Points, point(at%2*impl.MaxCoord, (at+1)%2*impl.MaxCoord, impl.MaxTime-2000+at))
			// The times rise by 1 and by a long pause in turn, which makes the greatest residuals.
			pauses.Points = append(pauses.Points, point(at/2%2*impl.MaxCoord, at/3%2*impl.MaxCoord, at+at/5*18500))
			steps.Points = append(steps.Points, point(5+3*p, 200-2*p, at))
		}
		far.Strokes = append(far.Strokes, jumps)
		slow.Strokes = append(slow.Strokes, pauses)
		quick.Strokes = append(quick.Strokes, steps)
	}
	return []impl.Ink{
		{}, far, slow, quick,
		inkWith(impl.MaxStrokes, impl.MaxPoints), inkWith(impl.MaxStrokes, 1), inkWith(1, impl.MaxPoints),
		ink(stroke(point(0, 0, 0))),
		ink(stroke(point(impl.MaxCoord, impl.MaxCoord, impl.MaxTime))),
		ink(stroke(point(0, impl.MaxCoord, 0), point(impl.MaxCoord, 0, impl.MaxTime))),
		ink(stroke(point(0, 0, 0), point(0, 0, 1), point(0, 0, impl.MaxTime))),
		ink(stroke(point(10, 20, 0), point(30, 25, 8)), stroke(point(1, 2, 9))),
	}
}
