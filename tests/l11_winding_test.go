package tests

import (
	"math"
	"slices"
	"testing"

	"loop.example/g00137/impl"
)

// fine is one part of sixteen of a pixel, as a fixed number.
const fine = one / 16

// fineEdge is how far from 0 a fine place may lie.
const fineEdge = 20000

// noFine are ints just beyond the edge, and as far beyond it as can be; some would be places if only their low bits were read.
var noFine = []int{fineEdge + 1, -fineEdge - 1, 1 << 16, 1 << 32, 1<<32 + 5, 1 << 62, math.MaxInt, math.MinInt, math.MinInt + 1}

func checkFine(t *testing.T, p impl.Point, x, y int) {
	t.Helper()
	if gotX, gotY, ok := impl.FineOf(p); gotX != x || gotY != y || !ok {
		t.Errorf("FineOf %v: %d %d, %v; not %d %d", p, gotX, gotY, ok, x, y)
	}
}

func checkNotFine(t *testing.T, p impl.Point) {
	t.Helper()
	if x, y, ok := impl.FineOf(p); x != 0 || y != 0 || ok {
		t.Errorf("FineOf %v: %d %d, %v", p, x, y, ok)
	}
}

func TestFineOfByHand(t *testing.T) {
	if impl.Fine != 16 {
		t.Error(impl.Fine)
	}
	checkFine(t, at(0, 0), 0, 0)
	checkFine(t, at(one, 2*one), 16, 32)
	checkFine(t, at(-one, -3*one), -16, -48)
	checkFine(t, at(one/2, -one/2), 8, -8)
	checkFine(t, at(one/16, one/32), 1, 1)
	checkFine(t, at(-one/16, -one/32), -1, 0)
	checkFine(t, at(one/32-1, -one/32-1), 0, -1)
	checkFine(t, at(one/3, -one/3), 5, -5)
	checkFine(t, at(1, -1), 0, 0)
	checkFine(t, at(98304, 7), 24, 0)
}

func TestFineOfWhereItSteps(t *testing.T) {
	for n := -16383; n <= 16384; n++ {
		// So far the quotient is below n, from here on it is not.
		x := n*fine - fine/2
		other := (n % 100) * one
		checkFine(t, at(x-1, other), n-1, n%100*16)
		checkFine(t, at(x, other), n, n%100*16)
		checkFine(t, at(x+1, other), n, n%100*16)
		checkFine(t, at(other, x-1), n%100*16, n-1)
		checkFine(t, at(other, x), n%100*16, n)
		checkFine(t, at(other, x+1), n%100*16, n)
	}
}

func TestFineOfAtTheEdges(t *testing.T) {
	e := nearEdge
	checkFine(t, at(e, e), 16384, 16384)
	checkFine(t, at(-e, -e), -16384, -16384)
	checkFine(t, at(e, -e), 16384, -16384)
	checkFine(t, at(-e, e), -16384, 16384)
	checkFine(t, at(e-1, 1-e), 16384, -16384)
	checkFine(t, at(e-fine/2, e-fine/2-1), 16384, 16383)
	for _, x := range noNear {
		for _, y := range append([]int{0, 1, -1, e, -e}, noNear...) {
			checkNotFine(t, at(x, y))
			checkNotFine(t, at(y, x))
		}
	}
}

func TestFineOfAnyPoints(t *testing.T) {
	d := dice(111)
	told := func(x int) int {
		sum := times(x, 16)
		return downAsTold(sum.Add(sum, whole(one/2)), one)
	}
	for range 20000 {
		p := someNearPoint(&d)
		checkFine(t, p, told(p.X), told(p.Y))
	}
}

// inFine takes numbers that are fine places.
func inFine(l impl.Line) impl.Line {
	out := impl.Line{Closed: l.Closed}
	for _, p := range l.Points {
		out.Points = append(out.Points, at(p.X*fine, p.Y*fine))
	}
	return out
}

func fineRing(n ...int) impl.Line { return inFine(ringLine(n...)) }

func reversed(l impl.Line) impl.Line {
	points := slices.Clone(l.Points)
	slices.Reverse(points)
	return impl.Line{Points: points, Closed: l.Closed}
}

// begunAt is the line that begins at its point k.
func begunAt(l impl.Line, k int) impl.Line {
	return impl.Line{Points: slices.Concat(l.Points[k:], l.Points[:k]), Closed: l.Closed}
}

func checkWinding(t *testing.T, l []impl.Line, x, y, want int) {
	t.Helper()
	if got, ok := impl.WindingAt(l, x, y); got != want || !ok {
		t.Errorf("%v: WindingAt %d %d: %d, %v; not %d", l, x, y, got, ok, want)
	}
}

func checkNoWinding(t *testing.T, name string, l []impl.Line, x, y int) {
	t.Helper()
	if got, ok := impl.WindingAt(l, x, y); got != 0 || ok {
		t.Errorf("%s: %d lines: WindingAt %d %d: %d, %v", name, len(l), x, y, got, ok)
	}
}

// checkWindings holds the line against what is told in all forms: closed and not, begun anywhere, and the other way round.
func checkWindings(t *testing.T, l impl.Line, x, y, want int) {
	t.Helper()
	for _, closed := range []bool{false, true} {
		l.Closed = closed
		checkWinding(t, []impl.Line{l}, x, y, want)
		checkWinding(t, []impl.Line{reversed(l)}, x, y, -want)
		for k := range l.Points {
			checkWinding(t, []impl.Line{begunAt(l, k)}, x, y, want)
		}
	}
}

func TestWindingOfASquare(t *testing.T) {
	// The edge that goes up (to the greater Y) is the right one.
	square := fineRing(0, 0, 10, 0, 10, 10, 0, 10)
	for y := -3; y <= 13; y++ {
		for x := -3; x <= 13; x++ {
			want := 0
			if 0 <= x && x < 10 && 0 <= y && y < 10 {
				want = 1
			}
			checkWindings(t, square, x, y, want)
		}
	}
	checkWinding(t, []impl.Line{square}, 5, 5, 1)
	checkWinding(t, []impl.Line{reversed(square)}, 5, 5, -1)
	// The fine places of its ends count, not the ends themselves.
	rough := ringLine(fine/2-1, -fine/2, 10*fine+fine/2-1, 0, 10*fine-fine/2, 10*fine+3, -fine/2, 10*fine-100)
	for y := -2; y <= 12; y++ {
		for x := -2; x <= 12; x++ {
			want, _ := impl.WindingAt([]impl.Line{square}, x, y)
			checkWindings(t, rough, x, y, want)
		}
	}
}

func TestWindingJustAtASegment(t *testing.T) {
	// Its slope goes up from 0 0 to 10 20; its other edges are at X 0 and at Y 20.
	left := fineRing(0, 0, 10, 20, 0, 20)
	for y := range 20 {
		for _, x := range []int{-1, 0, y/2 - 1, y / 2, y/2 + 1, (y + 1) / 2, 10} {
			want := 0
			if x >= 0 && 2*x < y {
				want = 1
			}
			checkWindings(t, left, x, y, want)
		}
	}
	checkWindings(t, left, 4, 10, 1)
	checkWindings(t, left, 5, 10, 0)
	checkWindings(t, left, 5, 11, 1)
	checkWindings(t, left, 6, 11, 0)
	checkWindings(t, left, 0, 0, 0)
	checkWindings(t, left, 0, 1, 1)
	checkWindings(t, left, 9, 19, 1)
	checkWindings(t, left, 10, 20, 0)
	checkWindings(t, left, 5, 20, 0)
	// A place at the slope is within what lies right of it.
	right := fineRing(0, 0, 30, 0, 30, 20, 10, 20)
	for y := range 20 {
		for _, x := range []int{-1, 0, y/2 - 1, y / 2, y/2 + 1, (y + 1) / 2, 29, 30, 31} {
			want := 0
			if 2*x >= y && x < 30 {
				want = 1
			}
			checkWindings(t, right, x, y, want)
		}
	}
	// Below 0, and a slope to the other side.
	other := fineRing(-10, -20, -13, -11, -30, -20)
	checkWindings(t, other, -11, -17, 0)
	checkWindings(t, other, -12, -17, 1)
	checkWindings(t, other, -12, -14, 0)
	checkWindings(t, other, -13, -14, 1)
	checkWindings(t, other, -11, -20, 1)
	checkWindings(t, other, -10, -20, 0)
	checkWindings(t, other, -13, -11, 0)
	checkWindings(t, other, -31, -20, 0)
	checkWindings(t, other, -30, -20, 1)
}

func TestWindingAtTheEndsOfSegments(t *testing.T) {
	// Where a line goes on over y at a point it is met once; where it turns back there, twice or not at all.
	on := fineRing(10, 0, 12, 10, 10, 20, 0, 20, 0, 0)
	turned := fineRing(10, 0, 20, 10, 10, 20, 30, 20, 30, 0)
	for _, x := range []int{-1, 0, 1, 9, 10, 11} {
		want := 0
		if x >= 0 {
			want = 1
		}
		checkWindings(t, on, x, 10, want)
	}
	checkWindings(t, on, 12, 10, 0)
	checkWindings(t, turned, 19, 10, 0)
	checkWindings(t, turned, 20, 10, -1)
	checkWindings(t, turned, 29, 10, -1)
	checkWindings(t, turned, 30, 10, 0)
	upper, lower := fineRing(0, 10, 10, 0, 20, 10, 20, 30, 0, 30), fineRing(0, 0, 10, 10, 20, 0, 20, -20, 0, -20)
	checkWindings(t, upper, 10, 0, 0)
	checkWindings(t, upper, 9, 0, 0)
	checkWindings(t, upper, 9, 1, 1)
	checkWindings(t, upper, 8, 0, 0)
	// Its edge to the right goes down.
	checkWindings(t, lower, 10, 10, 0)
	checkWindings(t, lower, 9, 10, 0)
	checkWindings(t, lower, 8, 9, 0)
	checkWindings(t, lower, 9, 9, -1)
	checkWindings(t, lower, 10, 9, -1)
	checkWindings(t, lower, 11, 9, 0)
	checkWindings(t, lower, 6, 7, 0)
	checkWindings(t, lower, 7, 7, -1)
	checkWindings(t, lower, 12, 7, -1)
	checkWindings(t, lower, 13, 7, 0)
	checkWindings(t, lower, -1, 0, 0)
	checkWindings(t, lower, 0, 0, -1)
	checkWindings(t, lower, 19, 0, -1)
	checkWindings(t, lower, 20, 0, 0)
	checkWindings(t, lower, 0, -1, -1)
	checkWindings(t, lower, 10, -20, -1)
	checkWindings(t, lower, 10, -21, 0)
}

func TestWindingOfFlatSegments(t *testing.T) {
	for _, l := range []impl.Line{fineRing(0, 5, 10, 5), fineRing(0, 5, 10, 5, 20, 5, 3, 5), fineRing(4, 5, 4, 5, 4, 5)} {
		for y := 4; y <= 6; y++ {
			for x := -1; x <= 21; x++ {
				checkWindings(t, l, x, y, 0)
			}
		}
	}
	// Points more along the flat edges change nothing.
	square, more := fineRing(0, 0, 10, 0, 10, 10, 0, 10), fineRing(0, 0, 3, 0, 3, 0, 15, 0, 10, 0, 10, 10, 12, 10, -4, 10, 0, 10)
	for y := -1; y <= 11; y++ {
		for x := -5; x <= 16; x++ {
			want, _ := impl.WindingAt([]impl.Line{square}, x, y)
			checkWindings(t, more, x, y, want)
		}
	}
}

func TestWindingOfFewPoints(t *testing.T) {
	for _, l := range []impl.Line{openLine(), openLine(0, 0), fineRing(5, 5), fineRing(0, 0, 7, 13), fineRing(7, 13, 0, 0), fineRing(5, 0, 5, 20), fineRing(5, 20, 5, 0), fineRing(0, 3, 9, 3)} {
		for y := -1; y <= 21; y++ {
			for x := -1; x <= 10; x++ {
				// There and back: once up and once down, or neither.
				checkWindings(t, l, x, y, 0)
				checkWinding(t, slices.Repeat([]impl.Line{l}, 3), x, y, 0)
			}
		}
	}
	for _, l := range [][]impl.Line{nil, {}, {{}}, {{}, {Closed: true}}, make([]impl.Line, 20000)} {
		checkWinding(t, l, 0, 0, 0)
		checkWinding(t, l, fineEdge, -fineEdge, 0)
		checkNoWinding(t, "too far", l, fineEdge+1, 0)
		checkNoWinding(t, "too far", l, 0, -fineEdge-1)
	}
}

func TestWindingOfSeveralRounds(t *testing.T) {
	round := fineRing(0, 0, 10, 0, 10, 10, 0, 10)
	twice := impl.Line{Points: slices.Concat(round.Points, round.Points), Closed: true}
	checkWindings(t, twice, 5, 5, 2)
	checkWindings(t, twice, 0, 0, 2)
	checkWindings(t, twice, 10, 5, 0)
	checkWindings(t, twice, -1, 5, 0)
	// The other way behind the first: nothing is left.
	checkWindings(t, impl.Line{Points: slices.Concat(round.Points, round.Points[:1], reversed(round).Points)}, 5, 5, 0)
	inner := fineRing(3, 3, 6, 3, 6, 6, 3, 6)
	checkWinding(t, []impl.Line{round, inner}, 4, 4, 2)
	checkWinding(t, []impl.Line{round, inner}, 2, 4, 1)
	checkWinding(t, []impl.Line{round, inner}, 7, 4, 1)
	checkWinding(t, []impl.Line{round, reversed(inner)}, 4, 4, 0)
	checkWinding(t, []impl.Line{round, reversed(inner)}, 2, 4, 1)
	checkWinding(t, []impl.Line{round, reversed(inner)}, 7, 4, 1)
	checkWinding(t, []impl.Line{reversed(round), inner, inner, inner}, 4, 4, 2)
	checkWinding(t, []impl.Line{reversed(round), inner, inner, inner}, 2, 4, -1)
	// Each line is closed by itself.
	checkWinding(t, []impl.Line{inFine(openLine(0, 0, 10, 0)), inFine(openLine(10, 10, 0, 10))}, 5, 5, 0)
	checkWinding(t, []impl.Line{inFine(openLine(0, 0, 10, 0, 10, 10, 0, 10)), {}, inFine(openLine(20, 0, 30, 0, 30, 10, 20, 10))}, 15, 5, 0)
	// Crossed, its two halves go round in two ways.
	crossed := fineRing(0, 0, 20, 20, 20, 0, 0, 20)
	checkWindings(t, crossed, 3, 10, 1)
	checkWindings(t, crossed, 16, 10, -1)
	checkWindings(t, crossed, 10, 3, 0)
	many := slices.Repeat([]impl.Line{round}, 1200)
	checkWinding(t, many, 5, 5, 1200)
	checkWinding(t, many, 15, 5, 0)
	slices.Reverse(many[0].Points)
	checkWinding(t, many, 5, 5, -1200)
}

func TestWindingAtTheEdges(t *testing.T) {
	all := []impl.Line{ringLine(-nearEdge, -nearEdge, nearEdge, -nearEdge, nearEdge, nearEdge, -nearEdge, nearEdge)}
	for _, x := range []int{-fineEdge, -fineEdge + 1, -16385, -16384, 0, 16383, 16384, fineEdge - 1, fineEdge} {
		for _, y := range []int{-fineEdge, -fineEdge + 1, -16385, -16384, 0, 16383, 16384, fineEdge - 1, fineEdge} {
			want := 0
			if -16384 <= x && x < 16384 && -16384 <= y && y < 16384 {
				want = 1
			}
			checkWindings(t, all[0], x, y, want)
			slope := ringLine(-nearEdge, -nearEdge, nearEdge, nearEdge, -nearEdge, nearEdge)
			if x >= y {
				want = 0
			}
			checkWindings(t, slope, x, y, want)
		}
	}
	for _, x := range noFine {
		for _, y := range append([]int{0, 5, fineEdge, -fineEdge}, noFine...) {
			checkNoWinding(t, "no place", all, x, y)
			checkNoWinding(t, "no place", all, y, x)
			checkNoWinding(t, "no place", nil, x, y)
		}
	}
}

func TestWindingOfPointsTooFar(t *testing.T) {
	for _, n := range noNear {
		for k := range 4 {
			for _, closed := range []bool{false, true} {
				wrong := fineRing(0, 0, 10, 0, 10, 10, 0, 10)
				wrong.Closed = closed
				wrong.Points[k].X = n
				checkNoWinding(t, "too far", []impl.Line{wrong}, 5, 5)
				wrong.Points[k] = at(3, n)
				checkNoWinding(t, "too far", []impl.Line{wrong}, 5, 5)
				checkNoWinding(t, "too far", []impl.Line{fineRing(0, 0, 9, 9, 0, 9), {}, wrong}, 5, 5)
				checkNoWinding(t, "too far", []impl.Line{wrong, fineRing(0, 0, 9, 9, 0, 9)}, 500, 500)
			}
		}
		checkNoWinding(t, "too far", []impl.Line{openLine(n, 0)}, 0, 0)
		checkNoWinding(t, "too far", []impl.Line{openLine(0, n)}, n, n)
	}
}

// manyPoints answers lines of so many points in all.
func manyPoints(counts ...int) []impl.Line {
	var l []impl.Line
	for k, count := range counts {
		points := slices.Repeat(fineRing(0, 0, 10, 0, 10, 10, 0, 10).Points, count/4+1)
		l = append(l, impl.Line{Points: points[:count], Closed: k%2 == 0})
	}
	return l
}

func TestWindingOfManyPoints(t *testing.T) {
	most := 8 * impl.MaxPoints
	for _, counts := range [][]int{{most}, {most - 4, 4}, {4, most - 4}, {most / 2, 0, most / 2}, slices.Repeat([]int{4}, most/4), slices.Repeat([]int{600}, 8)} {
		l := manyPoints(counts...)
		checkWinding(t, l, 5, 5, most/4)
		checkWinding(t, l, 10, 5, 0)
		for k := range l {
			more := cloneLines(l)
			more[k].Points = append(more[k].Points, at(0, 0))
			checkNoWinding(t, "one more", more, 5, 5)
			if k > 5 {
				break
			}
		}
		checkNoWinding(t, "one more", append(slices.Clone(l), openLine(0, 0)), 5, 5)
		checkNoWinding(t, "one more", append([]impl.Line{{}, openLine(0, 0)}, l...), 5, 5)
	}
	checkWinding(t, slices.Repeat([]impl.Line{openLine(3, 4)}, most), 0, 0, 0)
	for _, count := range []int{most + 1, most + 2, 2 * most, 100000} {
		checkNoWinding(t, "too many", manyPoints(count), 5, 5)
		checkNoWinding(t, "too many", slices.Repeat([]impl.Line{openLine(3, 4)}, count), 5, 5)
	}
}

// windingAsTold asks of each segment, from its lower end up, whether its place at y is right of x.
func windingAsTold(l []impl.Line, x, y int) int {
	sum := 0
	round := func(n int) int { return int(math.Floor(float64(n)/fine + 0.5)) }
	for _, line := range l {
		for k, p := range line.Points {
			q := line.Points[(k+len(line.Points)-1)%len(line.Points)]
			low, high, turn := at(round(q.X), round(q.Y)), at(round(p.X), round(p.Y)), 1
			if low.Y > high.Y {
				low, high, turn = high, low, -1
			}
			size := high.Y - low.Y
			if y >= low.Y && y < high.Y && low.X*size+(high.X-low.X)*(y-low.Y) > x*size {
				sum += turn
			}
		}
	}
	return sum
}

func someWoundLines(d *dice) []impl.Line {
	var l []impl.Line
	for range d.below(4) {
		line := someNearLine(d)
		if d.below(2) == 0 {
			size := oneOf(d, 3, 12, 40, 700)
			for k := range line.Points {
				line.Points[k] = at((d.below(size)-size/3)*fine+d.below(5)-2, (d.below(size)-size/3)*fine)
			}
		}
		l = append(l, line)
	}
	return l
}

func TestWindingOfAnyLines(t *testing.T) {
	d := dice(112)
	within := map[int]int{}
	for range 6000 {
		l := someWoundLines(&d)
		for range 4 {
			size := oneOf(&d, 3, 12, 40, 700, fineEdge)
			x, y := d.below(size)-size/3, d.below(size)-size/3
			if len(l) > 0 && d.below(3) == 0 {
				p := l[0].Points[d.below(len(l[0].Points))]
				x, y, _ = impl.FineOf(p)
			}
			want := windingAsTold(l, x, y)
			within[want]++
			checkWinding(t, l, x, y, want)
		}
	}
	if within[1] < 1000 || within[-1] < 1000 || within[2] < 20 || within[-2] < 20 || within[0] < 5000 {
		t.Error(within)
	}
}
