package tests

import (
	"math"
	"math/big"
	"slices"
	"testing"

	"loop.example/g00137/impl"
)

// nearEdge is how far from 0 a stroke's points may lie, and how long a number of a dash may be.
const nearEdge = 1024 * one

// noNear are ints just beyond the edge, and as far beyond it as can be.
var noNear = []int{nearEdge + 1, -nearEdge - 1, impl.MaxFixed, -impl.MaxFixed, 1 << 32, 1 << 62, math.MaxInt, math.MinInt, math.MinInt + 1}

func at(x, y int) impl.Point { return impl.Point{X: x, Y: y} }

func checkSize(t *testing.T, a, b impl.Point, want int) {
	t.Helper()
	for _, ends := range [][2]impl.Point{{a, b}, {b, a}} {
		if got, ok := impl.SizeOf(ends[0], ends[1]); got != want || !ok {
			t.Errorf("SizeOf %v: %d, %v; not %d", ends, got, ok, want)
		}
	}
}

func checkNoSize(t *testing.T, a, b impl.Point) {
	t.Helper()
	for _, ends := range [][2]impl.Point{{a, b}, {b, a}} {
		if got, ok := impl.SizeOf(ends[0], ends[1]); got != 0 || ok {
			t.Errorf("SizeOf %v: %d, %v", ends, got, ok)
		}
	}
}

func TestSizeOfByHand(t *testing.T) {
	checkSize(t, at(0, 0), at(0, 0), 0)
	checkSize(t, at(-7, 9), at(-7, 9), 0)
	checkSize(t, at(nearEdge, -nearEdge), at(nearEdge, -nearEdge), 0)
	checkSize(t, at(1, 2), at(1, 3), 1)
	checkSize(t, at(1, 2), at(0, 2), 1)
	checkSize(t, at(1, 2), at(2, 3), 1)
	checkSize(t, at(0, 0), at(1, 2), 2)
	checkSize(t, at(0, 0), at(2, 2), 2)
	checkSize(t, at(0, 0), at(-2, 3), 3)
	checkSize(t, at(-5, 5), at(5, -5), 14)
	checkSize(t, at(3, 4), at(0, 0), 5)
	checkSize(t, at(-3, 4), at(0, 0), 5)
	checkSize(t, at(100, 200), at(105, 188), 13)
	checkSize(t, at(0, 0), at(20*one, -21*one), 29*one)
	// The size is a whole number, not a fixed one's root: of two Ones to both sides it is 185363, down.
	checkSize(t, at(0, 0), at(2*one, 2*one), 185363)
}

func TestSizeOfAtTheEdges(t *testing.T) {
	e := nearEdge
	checkSize(t, at(-e, 0), at(e, 0), 2*e)
	checkSize(t, at(0, -e), at(0, e), 2*e)
	checkSize(t, at(e, e), at(e, -e), 2*e)
	checkSize(t, at(-e, -e), at(e, e), 189812531)
	checkSize(t, at(-e, e), at(e, -e), 189812531)
	for _, x := range noNear {
		for _, y := range []int{0, 1, e, -e} {
			checkNoSize(t, at(x, y), at(0, 0))
			checkNoSize(t, at(y, x), at(0, 0))
			checkNoSize(t, at(x, y), at(x, y))
			checkNoSize(t, at(y, x), at(e, e))
		}
		for _, y := range noNear {
			checkNoSize(t, at(x, y), at(0, 0))
			checkNoSize(t, at(x, 0), at(0, y))
			checkNoSize(t, at(x, 0), at(y, 0))
			checkNoSize(t, at(0, x), at(0, y))
		}
	}
}

func TestSizeOfAroundSquares(t *testing.T) {
	// With such legs the sum of squares is a square; one leg less is below it, but not below the square of one less.
	for _, legs := range [][3]int{{3, 4, 5}, {5, 12, 13}, {8, 15, 17}, {7, 24, 25}, {20, 21, 29}, {119, 120, 169}, {12709, 13500, 18541}} {
		for _, times := range []int{1, 2, 77, 3000} {
			x, y, n := legs[0]*times, legs[1]*times, legs[2]*times
			checkSize(t, at(0, 0), at(x, y), n)
			checkSize(t, at(10, -10), at(10-y, x-10), n)
			checkSize(t, at(0, 0), at(x-1, y), n-1)
			checkSize(t, at(0, 0), at(x, y-1), n-1)
			checkSize(t, at(0, 0), at(1, n), n)
		}
	}
	found := 0
	for x := range 400 {
		for y := range 400 {
			sum, n := x*x+y*y, 0
			for (n+1)*(n+1) <= sum {
				n++
			}
			if n > 0 && (sum == n*n || sum == n*n+1 || sum == n*n-1 || sum == n*n+2*n) {
				found++
				checkSize(t, at(0, 0), at(x, -y), n)
			}
		}
	}
	if found < 1000 {
		t.Error("only", found, "sums beside a square")
	}
}

func sizeAsTold(a, b impl.Point) int {
	sum := new(big.Int).Add(times(a.X-b.X, a.X-b.X), times(a.Y-b.Y, a.Y-b.Y))
	return int(sum.Sqrt(sum).Int64())
}

// someNear answers a number that a stroke's point may have, small ones and the edges often.
func someNear(d *dice) int {
	n := oneOf(d, d.below(4), d.below(30), d.below(2000), d.below(40)*one, d.below(nearEdge+1), nearEdge-d.below(3))
	if d.below(2) == 0 {
		return -n
	}
	return n
}

func someNearPoint(d *dice) impl.Point { return at(someNear(d), someNear(d)) }

func TestSizeOfAnyPoints(t *testing.T) {
	d := dice(101)
	for range 20000 {
		a, b := someNearPoint(&d), someNearPoint(&d)
		checkSize(t, a, b, sizeAsTold(a, b))
	}
}

func checkDashed(t *testing.T, l impl.Line, dash []int, from int, want ...impl.Line) {
	t.Helper()
	if got, ok := impl.Dashed(l, dash, from); !sameLines(got, want) || !ok {
		t.Errorf("%v: Dashed %v from %d: %v, %v; not %v", l, dash, from, got, ok, want)
	}
}

func checkNotDashed(t *testing.T, name string, l impl.Line, dash []int, from int) {
	t.Helper()
	if got, ok := impl.Dashed(l, dash, from); len(got) != 0 || ok {
		t.Errorf("%s: %d points: Dashed %v from %d: %d dashes, %v", name, len(l.Points), dash, from, len(got), ok)
	}
}

// straight answers what is left of a line along X: dashes from one number up to the next, by pairs.
func straight(n ...int) []impl.Line {
	var l []impl.Line
	for k := 0; k < len(n); k += 2 {
		l = append(l, openLine(n[k], 0, n[k+1], 0))
	}
	return l
}

func TestLinesWithoutNumbersAreThemselves(t *testing.T) {
	e := nearEdge
	for _, l := range []impl.Line{
		openLine(1, 2), ringLine(1, 2), openLine(0, 0, 5, 0), ringLine(0, 0, 5, 0), openLine(1, 2, 1, 2), ringLine(1, 2, 1, 2), openLine(1, 2, 3, 4, 3, 4, 1, 2), ringLine(1, 2, 3, 4, 3, 4, 1, 2),
		openLine(e, -e, -e, e), ringLine(-e, -e, e, e, 0, 0),
		{Points: slices.Repeat(pointsFor(1, 2, 3, 4), impl.MaxPoints/2)}, {Points: slices.Repeat(pointsFor(1, 2, 3, 4), impl.MaxPoints/2), Closed: true},
	} {
		for _, from := range []int{0, 1, 7, e} {
			checkDashed(t, l, nil, from, l)
			for count := range 9 {
				checkDashed(t, l, make([]int, count), from, l)
			}
		}
	}
}

func TestDashesAreEvenPlaces(t *testing.T) {
	l := openLine(0, 0, 10, 0)
	for _, c := range []struct{ dash, places []int }{
		{[]int{3, 2}, []int{0, 3, 5, 8}},
		{[]int{2, 3}, []int{0, 2, 5, 7}},
		{[]int{2, 2}, []int{0, 2, 4, 6, 8, 10}},
		{[]int{1, 1}, []int{0, 1, 2, 3, 4, 5, 6, 7, 8, 9}},
		{[]int{9, 9}, []int{0, 9}},
		{[]int{10, 1}, []int{0, 10}},
		{[]int{11, 1}, []int{0, 10}},
		{[]int{nearEdge, 0}, []int{0, 10}},
		{[]int{1, 2, 3, 1}, []int{0, 1, 3, 6, 7, 8}},
		{[]int{4, 1, 1, 1, 1, 1}, []int{0, 4, 5, 6, 7, 8, 9, 10}},
		{[]int{1, 1, 1, 2, 1, 1, 1, 1}, []int{0, 1, 2, 3, 5, 6, 7, 8, 9, 10}},
		// An odd many of numbers: all twice.
		{[]int{1}, []int{0, 1, 2, 3, 4, 5, 6, 7, 8, 9}},
		{[]int{3}, []int{0, 3, 6, 9}},
		{[]int{4}, []int{0, 4, 8, 10}},
		{[]int{10}, []int{0, 10}},
		{[]int{nearEdge}, []int{0, 10}},
		{[]int{1, 2, 3}, []int{0, 1, 3, 6, 7, 9}},
		{[]int{1, 1, 2}, []int{0, 1, 2, 4, 5, 6, 8, 9}},
		{[]int{1, 1, 1, 1, 1}, []int{0, 1, 2, 3, 4, 5, 6, 7, 8, 9}},
		{[]int{1, 1, 1, 1, 2}, []int{0, 1, 2, 3, 4, 6, 7, 8, 9, 10}},
		{[]int{1, 1, 1, 1, 1, 1, 3}, []int{0, 1, 2, 3, 4, 5, 6, 9}},
	} {
		checkDashed(t, l, c.dash, 0, straight(c.places...)...)
	}
}

func TestDashesFrom(t *testing.T) {
	l := openLine(0, 0, 10, 0)
	// Within a number, at its end, at the end of all and beyond: from each round's end all is as at its beginning.
	for from, places := range [][]int{{0, 3, 5, 8}, {0, 2, 4, 7, 9, 10}, {0, 1, 3, 6, 8, 10}, {2, 5, 7, 10}, {1, 4, 6, 9}} {
		for _, round := range []int{0, 1, 2, 7, 1000} {
			checkDashed(t, l, []int{3, 2}, from+5*round, straight(places...)...)
			checkDashed(t, l, []int{3, 2, 3, 2}, from+5*round, straight(places...)...)
		}
	}
	// Of an odd many the round is all of them twice.
	for from, places := range [][]int{{0, 3, 6, 9}, {0, 2, 5, 8}, {0, 1, 4, 7}, {3, 6, 9, 10}, {2, 5, 8, 10}, {1, 4, 7, 10}} {
		for _, round := range []int{0, 1, 2, 7, 1000} {
			checkDashed(t, l, []int{3}, from+6*round, straight(places...)...)
			checkDashed(t, l, []int{3, 3, 3}, from+6*round, straight(places...)...)
		}
	}
	for from, places := range map[int][]int{0: {0, 1, 3, 6, 7, 9}, 1: {2, 5, 6, 8}, 2: {1, 4, 5, 7}, 3: {0, 3, 4, 6, 9, 10}, 5: {0, 1, 2, 4, 7, 8}, 6: {1, 3, 6, 7, 9, 10}, 7: {0, 2, 5, 6, 8, 10}, 8: {0, 1, 4, 5, 7, 10}, 9: {3, 4, 6, 9}, 11: {1, 2, 4, 7, 8, 10}} {
		checkDashed(t, l, []int{1, 2, 3}, from, straight(places...)...)
		checkDashed(t, l, []int{1, 2, 3}, from+12, straight(places...)...)
		checkDashed(t, l, []int{1, 2, 3, 1, 2, 3}, from+12*77, straight(places...)...)
	}
	checkDashed(t, l, []int{nearEdge, 1}, nearEdge, straight(1, 10)...)
	checkDashed(t, l, []int{nearEdge, 1}, nearEdge-1, straight(0, 1, 2, 10)...)
	checkDashed(t, l, []int{nearEdge - 1, 1}, nearEdge, straight(0, 10)...)
	checkDashed(t, l, []int{nearEdge}, nearEdge)
	checkDashed(t, l, []int{nearEdge, nearEdge, 1, nearEdge, nearEdge, nearEdge, nearEdge, nearEdge}, nearEdge)
	checkDashed(t, l, []int{0, nearEdge}, nearEdge)
	checkDashed(t, l, []int{0, nearEdge, 3, 1}, nearEdge, straight(0, 3)...)
}

func TestDashesOfNoughts(t *testing.T) {
	l := openLine(0, 0, 10, 0)
	for _, c := range []struct {
		dash   []int
		from   int
		places []int
	}{
		// As dashes.
		{[]int{0, 2}, 0, nil},
		{[]int{0, 3}, 2, nil},
		{[]int{0, 10}, 0, nil},
		{[]int{0, 2, 3, 1}, 0, []int{2, 5, 8, 10}},
		{[]int{3, 1, 0, 2}, 0, []int{0, 3, 6, 9}},
		{[]int{0, 1, 0, 1, 2, 1}, 0, []int{2, 4, 7, 9}},
		// As gaps.
		{[]int{3, 0}, 0, []int{0, 3, 3, 6, 6, 9, 9, 10}},
		{[]int{5, 0}, 0, []int{0, 5, 5, 10}},
		{[]int{3, 0, 2, 1}, 0, []int{0, 3, 3, 5, 6, 9, 9, 10}},
		{[]int{2, 1, 3, 0}, 0, []int{0, 2, 3, 6, 6, 8, 9, 10}},
		// Both, side by side.
		{[]int{4, 0, 0, 0}, 0, []int{0, 4, 4, 8, 8, 10}},
		{[]int{0, 0, 4, 0}, 0, []int{0, 4, 4, 8, 8, 10}},
		{[]int{0, 4, 0, 0}, 0, nil},
		{[]int{3, 2, 0, 0}, 0, []int{0, 3, 5, 8}},
		{[]int{0, 0, 3, 2}, 0, []int{0, 3, 5, 8}},
		{[]int{3, 0, 0, 2}, 0, []int{0, 3, 5, 8}},
		{[]int{0, 3, 2, 0}, 0, []int{3, 5, 8, 10}},
		{[]int{0, 0, 0, 0, 0, 0, 3, 2}, 0, []int{0, 3, 5, 8}},
		{[]int{0, 0, 0, 0, 0, 0, 0, 2}, 0, nil},
		// Of an odd many each is a dash and a gap in turn.
		{[]int{0, 3, 2}, 0, []int{3, 5, 5, 8}},
		{[]int{0, 3, 2}, 3, []int{0, 2, 2, 5, 10, 10}},
		{[]int{0, 3, 2}, 5, []int{0, 3, 8, 10}},
		{[]int{0, 0, 4}, 0, []int{0, 4, 8, 10}},
		{[]int{4, 0, 0}, 0, []int{0, 4, 8, 10}},
		// From among them.
		{[]int{3, 0, 0, 2}, 3, []int{2, 5, 7, 10}},
		{[]int{3, 0, 0, 2}, 2, []int{0, 1, 3, 6, 8, 10}},
		{[]int{3, 0, 0, 2}, 5, []int{0, 3, 5, 8}},
		{[]int{3, 0, 2, 0}, 3, []int{0, 2, 2, 5, 5, 7, 7, 10}},
		{[]int{0, 2, 0, 3}, 2, nil},
		{[]int{2, 0, 0, 0, 0, 0, 1, 3}, 2, []int{0, 1, 4, 6, 6, 7}},
		{[]int{0, 2, 4, 0}, 6, []int{2, 6, 8, 10}},
		{[]int{0, 2, 4, 0}, 2, []int{0, 4, 6, 10}},
	} {
		checkDashed(t, l, c.dash, c.from, slices.DeleteFunc(straight(c.places...), func(l impl.Line) bool { return l.Points[0] == l.Points[1] })...)
	}
}

func TestNumbersThatEndWithinASegment(t *testing.T) {
	// The size of each is 5; below 0 the parts go down, away from where the segment begins.
	for _, c := range []struct {
		end   impl.Point
		ahead []impl.Point
	}{
		{at(3, 4), pointsFor(0, 0, 0, 0, 1, 1, 1, 2, 2, 3, 3, 4)},
		{at(-3, -4), pointsFor(0, 0, -1, -1, -2, -2, -2, -3, -3, -4, -3, -4)},
		{at(4, -3), pointsFor(0, 0, 0, -1, 1, -2, 2, -2, 3, -3, 4, -3)},
		{at(-4, 3), pointsFor(0, 0, -1, 0, -2, 1, -3, 1, -4, 2, -4, 3)},
		{at(0, -5), pointsFor(0, 0, 0, -1, 0, -2, 0, -3, 0, -4, 0, -5)},
		// Not quite 5: the root is 5 all the same.
		{at(5, 1), pointsFor(0, 0, 1, 0, 2, 0, 3, 0, 4, 0, 5, 1)},
		{at(-5, -3), pointsFor(0, 0, -1, -1, -2, -2, -3, -2, -4, -3, -5, -3)},
	} {
		for _, off := range []impl.Point{{}, at(100, -200), at(-nearEdge+5, nearEdge-5)} {
			b := at(off.X+c.end.X, off.Y+c.end.Y)
			l := impl.Line{Points: []impl.Point{off, b}}
			for from := range 5 {
				for to := from + 1; to <= 5; to++ {
					first, last := c.ahead[from], c.ahead[to]
					places := slices.Compact([]impl.Point{at(off.X+first.X, off.Y+first.Y), at(off.X+last.X, off.Y+last.Y)})
					var want []impl.Line
					if len(places) == 2 {
						want = []impl.Line{{Points: places}}
					}
					checkDashed(t, l, []int{0, from, to - from, 1000}, 0, want...)
				}
			}
		}
	}
	e := nearEdge
	checkDashed(t, openLine(-e, 0, e, 0), []int{e}, 0, openLine(-e, 0, 0, 0))
	checkDashed(t, openLine(e, e, -e, -e), []int{e}, 0, openLine(e, e, 19655731, 19655731), openLine(-27797402, -27797402, -e, -e))
}

func TestNumbersThatEndAtAPoint(t *testing.T) {
	l := openLine(0, 0, 5, 0, 5, 5, 0, 5)
	checkDashed(t, l, []int{5, 5}, 0, openLine(0, 0, 5, 0), openLine(5, 5, 0, 5))
	checkDashed(t, l, []int{5, 5}, 5, openLine(5, 0, 5, 5))
	checkDashed(t, l, []int{5, 0}, 0, openLine(0, 0, 5, 0), openLine(5, 0, 5, 5), openLine(5, 5, 0, 5))
	checkDashed(t, l, []int{10, 2}, 0, openLine(0, 0, 5, 0, 5, 5), openLine(3, 5, 0, 5))
	checkDashed(t, l, []int{2, 3, 10, 1}, 0, openLine(0, 0, 2, 0), openLine(5, 0, 5, 5, 0, 5))
	checkDashed(t, l, []int{2, 3, 5, 5}, 0, openLine(0, 0, 2, 0), openLine(5, 0, 5, 5))
	checkDashed(t, l, []int{4, 1, 0, 5, 3, 1}, 0, openLine(0, 0, 4, 0), openLine(5, 5, 2, 5), openLine(1, 5, 0, 5))
	// At the last point: what begins there has one place alone.
	checkDashed(t, l, []int{15, 1}, 0, l)
	checkDashed(t, l, []int{15, 0}, 0, l)
	checkDashed(t, l, []int{16, 1}, 0, l)
	checkDashed(t, l, []int{14, 1}, 0, openLine(0, 0, 5, 0, 5, 5, 1, 5))
	checkDashed(t, l, []int{1, 14}, 0, openLine(0, 0, 1, 0))
	checkDashed(t, l, []int{1, 13}, 0, openLine(0, 0, 1, 0), openLine(1, 5, 0, 5))
	checkDashed(t, l, []int{0, 15, 3, 1}, 0)
	checkDashed(t, l, []int{0, 14, 3, 1}, 0, openLine(1, 5, 0, 5))
	checkDashed(t, l, []int{0, 15}, 0)
}

func TestDashesThatPassPoints(t *testing.T) {
	l := openLine(0, 0, 5, 0, 5, 5, 0, 5)
	checkDashed(t, l, []int{7, 100}, 0, openLine(0, 0, 5, 0, 5, 2))
	checkDashed(t, l, []int{12, 100}, 0, openLine(0, 0, 5, 0, 5, 5, 3, 5))
	checkDashed(t, l, []int{0, 3, 9, 100}, 0, openLine(3, 0, 5, 0, 5, 5, 3, 5))
	checkDashed(t, l, []int{4, 3}, 0, openLine(0, 0, 4, 0), openLine(5, 2, 5, 5, 4, 5), openLine(1, 5, 0, 5))
	checkDashed(t, l, []int{1000, 1}, 0, l)
	// Two points at the same place, and more of them, are one; a segment of the size 0 is passed over.
	for _, more := range []int{1, 2, 5} {
		twice := impl.Line{Points: slices.Concat(slices.Repeat(pointsFor(0, 0), more), slices.Repeat(pointsFor(5, 0), more+1), slices.Repeat(pointsFor(5, 5), more))}
		checkDashed(t, twice, []int{7, 100}, 0, openLine(0, 0, 5, 0, 5, 2))
		checkDashed(t, twice, []int{1000}, 0, openLine(0, 0, 5, 0, 5, 5))
		checkDashed(t, twice, []int{5, 5}, 0, openLine(0, 0, 5, 0))
		checkDashed(t, twice, []int{5, 0}, 0, openLine(0, 0, 5, 0), openLine(5, 0, 5, 5))
		checkDashed(t, twice, []int{5}, 5, openLine(5, 0, 5, 5))
		checkDashed(t, twice, []int{5, 0, 1, 2}, 0, openLine(0, 0, 5, 0), openLine(5, 0, 5, 1), openLine(5, 3, 5, 5))
		// The way back has the size 7.
		twice.Closed = true
		checkDashed(t, twice, []int{5, 5}, 0, openLine(0, 0, 5, 0), openLine(5, 5, 1, 1))
		checkDashed(t, twice, []int{5, 5, 7, 1}, 0, openLine(0, 0, 5, 0), openLine(5, 5, 0, 0))
	}
	// At one place but not side by side, they stay.
	checkDashed(t, openLine(0, 0, 5, 0, 0, 0), []int{7, 100}, 0, openLine(0, 0, 5, 0, 3, 0))
	checkDashed(t, openLine(0, 0, 5, 0, 0, 0), []int{100}, 0, openLine(0, 0, 5, 0, 0, 0))
	// A place within a segment that is, rounded, one of its ends.
	checkDashed(t, openLine(0, 0, -3, -4, -3, -14), []int{0, 4, 3, 100}, 0, openLine(-3, -4, -3, -6))
	checkDashed(t, openLine(0, 0, -3, -4, -3, -14), []int{4, 100}, 0, openLine(0, 0, -3, -4))
	checkDashed(t, openLine(0, -10, 0, 0, 3, 4), []int{11, 100}, 0, openLine(0, -10, 0, 0))
	checkDashed(t, openLine(0, -10, 0, 0, 3, 4), []int{0, 10, 1, 100}, 0)
}

func TestDashesWithOnePlaceAlone(t *testing.T) {
	for _, l := range []impl.Line{openLine(4, 5), ringLine(4, 5), openLine(4, 5, 4, 5), ringLine(4, 5, 4, 5, 4, 5), {Points: slices.Repeat(pointsFor(4, 5), impl.MaxPoints), Closed: true}} {
		for _, dash := range [][]int{{1}, {1, 0}, {0, 1}, {5, 5}, {nearEdge}, {0, 0, 0, 1}} {
			for _, from := range []int{0, 1, nearEdge} {
				checkDashed(t, l, dash, from)
			}
		}
	}
	// From 0 to 1 both parts stay as they are, and so from 4 to 5 on the way back.
	checkDashed(t, openLine(0, 0, 3, 4), []int{1, 100}, 0)
	checkDashed(t, openLine(0, 0, 3, 4), []int{1, 2}, 0, openLine(1, 2, 2, 3))
	checkDashed(t, openLine(0, 0, -3, -4), []int{0, 4, 1, 100}, 0)
	checkDashed(t, openLine(0, 0, 10, 0), []int{3, 7}, 0, straight(0, 3)...)
}

func TestDashesOfClosedLines(t *testing.T) {
	square := pointsFor(0, 0, 4, 0, 4, 4, 0, 4)
	l := ring(square)
	again := ring(append(slices.Clone(square), at(0, 0)))
	for _, c := range []struct {
		dash []int
		from int
		want []impl.Line
	}{
		// Just at the end of the way back, one short of it and one beyond.
		{[]int{16, 1}, 0, []impl.Line{openLine(0, 0, 4, 0, 4, 4, 0, 4, 0, 0)}},
		{[]int{16}, 0, []impl.Line{openLine(0, 0, 4, 0, 4, 4, 0, 4, 0, 0)}},
		{[]int{15, 1}, 0, []impl.Line{openLine(0, 0, 4, 0, 4, 4, 0, 4, 0, 1)}},
		{[]int{17, 1}, 0, []impl.Line{openLine(0, 0, 4, 0, 4, 4, 0, 4, 0, 0)}},
		{[]int{0, 15, 1, 0}, 0, []impl.Line{openLine(0, 1, 0, 0)}},
		{[]int{0, 16, 1, 0}, 0, nil},
		{[]int{8, 8}, 0, []impl.Line{openLine(0, 0, 4, 0, 4, 4)}},
		{[]int{8, 8}, 8, []impl.Line{openLine(4, 4, 0, 4, 0, 0)}},
		{[]int{4}, 0, []impl.Line{openLine(0, 0, 4, 0), openLine(4, 4, 0, 4)}},
		{[]int{4}, 4, []impl.Line{openLine(4, 0, 4, 4), openLine(0, 4, 0, 0)}},
		{[]int{5}, 0, []impl.Line{openLine(0, 0, 4, 0, 4, 1), openLine(2, 4, 0, 4, 0, 1)}},
		{[]int{5}, 6, []impl.Line{openLine(4, 0, 4, 4, 3, 4), openLine(0, 2, 0, 0)}},
		{[]int{12, 2}, 0, []impl.Line{openLine(0, 0, 4, 0, 4, 4, 0, 4), openLine(0, 2, 0, 0)}},
		{[]int{8, 0}, 0, []impl.Line{openLine(0, 0, 4, 0, 4, 4), openLine(4, 4, 0, 4, 0, 0)}},
	} {
		checkDashed(t, l, c.dash, c.from, c.want...)
		checkDashed(t, again, c.dash, c.from, c.want...)
	}
	// The same points without the way back.
	checkDashed(t, impl.Line{Points: square}, []int{16, 1}, 0, openLine(0, 0, 4, 0, 4, 4, 0, 4))
	checkDashed(t, impl.Line{Points: square}, []int{4}, 4, openLine(4, 0, 4, 4))
	// There and back.
	checkDashed(t, ringLine(0, 0, 4, 0), []int{8}, 0, openLine(0, 0, 4, 0, 0, 0))
	checkDashed(t, ringLine(0, 0, 4, 0), []int{3}, 0, openLine(0, 0, 3, 0), openLine(2, 0, 0, 0))
	checkDashed(t, ringLine(0, 0, 4, 0), []int{4, 0}, 0, openLine(0, 0, 4, 0), openLine(4, 0, 0, 0))
}

// zigzag has points that are no two side by side the same, and a segment's size is 1.
func zigzag(count int, closed bool) impl.Line {
	l := impl.Line{Closed: closed}
	for k := range count {
		l.Points = append(l.Points, at(k%2, 0))
	}
	return l
}

func TestDashesHowManyPoints(t *testing.T) {
	to := func(x int) impl.Line { return openLine(0, 0, x, 0) }
	var want []int
	for x := range 600 {
		want = append(want, x)
	}
	checkDashed(t, to(599), []int{1}, 0, straight(want...)...)
	// The next dash begins at the end: with one place alone it is left out.
	checkDashed(t, to(600), []int{1}, 0, straight(want...)...)
	for _, x := range []int{601, 602, 603, 1000, 5000, nearEdge} {
		checkNotDashed(t, "more points", to(x), []int{1}, 0)
		checkNotDashed(t, "more points", to(x), []int{1, 1}, 0)
		checkNotDashed(t, "more points", to(x), []int{2, 0}, 2)
	}
	// A dash that passes all points, by itself and beside others.
	for _, count := range []int{599, 600} {
		checkDashed(t, zigzag(count, false), []int{count}, 0, zigzag(count, false))
		checkDashed(t, zigzag(count, false), []int{nearEdge, 1}, 0, zigzag(count, false))
		checkDashed(t, zigzag(count, false), []int{count, 1}, count, impl.Line{Points: zigzag(count, false).Points[1:]})
	}
	whole := zigzag(598, true).Points
	checkDashed(t, zigzag(598, true), []int{nearEdge}, 0, impl.Line{Points: append(whole, at(0, 0))})
	checkDashed(t, zigzag(600, true), []int{599, 1}, 0, zigzag(600, false))
	checkNotDashed(t, "back to the first", zigzag(600, true), []int{600, 1}, 0)
	checkNotDashed(t, "back to the first", zigzag(600, true), []int{nearEdge}, 0)
	checkDashed(t, zigzag(599, false), []int{300, 0}, 0, impl.Line{Points: zigzag(301, false).Points}, impl.Line{Points: zigzag(299, false).Points})
	checkNotDashed(t, "one point twice", zigzag(600, false), []int{300, 0}, 0)
	checkNotDashed(t, "halves", openLine(0, 0, 600*one, 0), []int{one / 2}, 0)
}

func TestDashesHowManyNumbers(t *testing.T) {
	to := func(x int) impl.Line { return openLine(0, 0, x, 0) }
	// A gap of 1 and a dash of 0: two begin at each number, at the last one too.
	checkDashed(t, to(1199), []int{0, 1}, 0)
	checkDashed(t, to(1200), []int{0, 1}, 0)
	checkNotDashed(t, "two more", to(1201), []int{0, 1}, 0)
	checkNotDashed(t, "many more", to(nearEdge), []int{0, 1}, 0)
	// What From passes over does not count, and neither does the first number.
	checkDashed(t, to(2400), []int{0, 2}, 0)
	checkDashed(t, to(2401), []int{0, 2}, 0)
	checkNotDashed(t, "two more", to(2402), []int{0, 2}, 0)
	checkDashed(t, to(2401), []int{0, 2}, 1000)
	checkDashed(t, to(2400), []int{0, 2}, 1001)
	checkNotDashed(t, "two more, From within", to(2401), []int{0, 2}, 1001)
	// A dash of 1, six of 0 and a gap of 1, from the gap on: one begins at an odd number, seven at an even one.
	row := []int{1, 0, 0, 0, 0, 0, 0, 1}
	var want []int
	for x := 1; x <= 600; x++ {
		want = append(want, x)
	}
	checkDashed(t, to(599), row, 1, straight(want[:598]...)...)
	checkDashed(t, to(600), row, 1, straight(want...)...)
	checkNotDashed(t, "one more, which begins at the end", to(601), row, 1)
	checkNotDashed(t, "eight more", to(602), row, 1)
	checkDashed(t, to(600), row, 3, straight(want...)...)
	// From the dash on: seven at an odd number, one at an even one.
	checkDashed(t, to(600), row, 0, straight(append([]int{0}, want[:599]...)...)...)
	checkNotDashed(t, "seven more", to(601), row, 0)
	// Over many points.
	checkDashed(t, zigzag(600, false), []int{0, 0, 0, 1}, 0)
	checkNotDashed(t, "over many points", zigzag(600, true), []int{0, 0, 0, 0, 0, 1}, 0)
	checkDashed(t, zigzag(600, true), []int{0, 0, 0, 1}, 0)
	far := impl.Line{Closed: true}
	for k := range impl.MaxPoints {
		far.Points = append(far.Points, at(nearEdge*(1-k%2*2), nearEdge*(1-k%2*2)))
	}
	checkNotDashed(t, "as many as can be", far, []int{0, 1}, 0)
	checkNotDashed(t, "as many as can be", far, []int{1, 0}, 0)
	checkNotDashed(t, "as many as can be", far, []int{0, 0, 0, 0, 0, 0, 0, 1}, nearEdge)
}

func TestDashedWrongArguments(t *testing.T) {
	l := openLine(0, 0, 10, 0)
	for _, dash := range [][]int{nil, {0}, {0, 0}, {3}, {3, 2}} {
		checkNotDashed(t, "no points", impl.Line{}, dash, 0)
		checkNotDashed(t, "no points", ringLine(), dash, 0)
		for _, count := range []int{601, 602, 1000, 100000} {
			for _, closed := range []bool{false, true} {
				checkNotDashed(t, "too many points", impl.Line{Points: slices.Repeat(pointsFor(1, 2), count), Closed: closed}, dash, 0)
			}
		}
		for _, x := range noNear {
			for _, closed := range []bool{false, true} {
				for k := range 3 {
					wrong := impl.Line{Points: pointsFor(1, 2, 3, 4, 5, 6), Closed: closed}
					wrong.Points[k].X = x
					checkNotDashed(t, "too far", wrong, dash, 0)
					wrong.Points[k] = at(0, x)
					checkNotDashed(t, "too far", wrong, dash, 0)
				}
				checkNotDashed(t, "too far", impl.Line{Points: pointsFor(x, x), Closed: closed}, dash, 0)
			}
		}
		for _, from := range []int{-1, nearEdge + 1, -nearEdge, math.MinInt, math.MaxInt} {
			checkNotDashed(t, "no From", l, dash, from)
		}
	}
	checkDashed(t, l, slices.Repeat([]int{2, 3}, 4), 0, straight(0, 2, 5, 7)...)
	for _, count := range []int{9, 10, 16, 100000} {
		checkNotDashed(t, "too many numbers", l, make([]int, count), 0)
		checkNotDashed(t, "too many numbers", l, slices.Repeat([]int{2}, count), 0)
	}
	for _, x := range []int{-1, nearEdge + 1, -nearEdge, 1 << 32, math.MinInt, math.MaxInt, math.MinInt + 1} {
		checkNotDashed(t, "no number", l, []int{x}, 0)
		for k := range 8 {
			dash := []int{1, 2, 3, 4, 5, 6, 7, 8}
			dash[k] = x
			checkNotDashed(t, "no number", l, dash, 0)
			dash = make([]int, 8)
			dash[k] = x
			checkNotDashed(t, "no number", l, dash, 0)
		}
	}
	e := nearEdge
	checkDashed(t, openLine(e, e, -e, e), []int{e, e, e, e, e, e, e, e}, e, openLine(0, e, -e, e))
}

// placeAsTold answers the place that is so far along; far tells the same of each point.
func placeAsTold(points []impl.Point, far []int, along int) impl.Point {
	for k := range len(points) - 1 {
		if far[k] <= along && along < far[k+1] {
			part := func(a, b int) int { return a + downAsTold(times(b-a, along-far[k]), far[k+1]-far[k]) }
			return at(part(points[k].X, points[k+1].X), part(points[k].Y, points[k+1].Y))
		}
	}
	return points[len(points)-1]
}

func isNear(p impl.Point) bool {
	return max(p.X, p.Y, -p.X, -p.Y) <= nearEdge && min(p.X, p.Y) >= -nearEdge
}

func areDash(dash []int, from int) bool {
	return len(dash) <= 8 && !slices.ContainsFunc(append([]int{from}, dash...), func(n int) bool { return n < 0 || n > nearEdge })
}

// dashedAsTold lays the numbers along the whole line, and takes of each dash what lies between the line's ends.
func dashedAsTold(l impl.Line, dash []int, from int) ([]impl.Line, bool) {
	if len(l.Points) < 1 || len(l.Points) > 600 || slices.ContainsFunc(l.Points, func(p impl.Point) bool { return !isNear(p) }) || !areDash(dash, from) {
		return nil, false
	}
	if !slices.ContainsFunc(dash, func(n int) bool { return n > 0 }) {
		return []impl.Line{l}, true
	}
	points := slices.Clone(l.Points)
	if l.Closed {
		points = append(points, points[0])
	}
	far := make([]int, len(points))
	for k := range len(points) - 1 {
		far[k+1] = far[k] + sizeAsTold(points[k], points[k+1])
	}
	end, numbers := far[len(far)-1], slices.Repeat(dash, 1+len(dash)%2)
	round := 0
	for _, n := range numbers {
		round += n
	}
	var out []impl.Line
	begun, sum := 0, 0
	for k, start := 0, -(from % round); start <= end && begun <= 2400; k++ {
		n := numbers[k%len(numbers)]
		if start > 0 {
			begun++
		}
		if k%2 == 0 && start+n > 0 {
			first, last := max(start, 0), min(start+n, end)
			places := []impl.Point{placeAsTold(points, far, first)}
			for i, p := range points {
				if first <= far[i] && far[i] <= last {
					places = append(places, p)
				}
			}
			if places = slices.Compact(append(places, placeAsTold(points, far, last))); len(places) > 1 {
				out, sum = append(out, impl.Line{Points: places}), sum+len(places)
			}
		}
		start += n
	}
	return out, begun <= 2400 && sum <= 600
}

// someNearLine has points that come again, side by side and otherwise.
func someNearLine(d *dice) impl.Line {
	l := impl.Line{Closed: d.below(2) == 0}
	size := oneOf(d, 3, 8, 40, 500, 20*one, nearEdge)
	for range 1 + d.below(7) {
		p := at(d.below(2*size+1)-size, d.below(2*size+1)-size)
		if len(l.Points) > 0 && d.below(5) == 0 {
			p = oneOf(d, l.Points[0], l.Points[len(l.Points)-1])
		}
		if d.below(3) == 0 {
			p.Y = 0
		}
		l.Points = append(l.Points, p)
	}
	return l
}

func someDash(d *dice) ([]int, int) {
	var dash []int
	size := oneOf(d, 2, 6, 50, 400, 30*one, nearEdge)
	for range d.below(9) {
		dash = append(dash, oneOf(d, 0, 1+d.below(size), 1+d.below(size), d.below(10)))
	}
	return dash, oneOf(d, 0, d.below(20), d.below(2*size)%(nearEdge+1), nearEdge-d.below(2))
}

func TestDashesOfAnyLines(t *testing.T) {
	d := dice(102)
	good, bad, dashes := 0, 0, 0
	for range 8000 {
		l := someNearLine(&d)
		dash, from := someDash(&d)
		switch d.below(40) {
		case 0:
			l.Points[d.below(len(l.Points))].X = oneOf(&d, noNear...)
		case 1:
			dash = append(dash, oneOf(&d, -1, nearEdge+1, math.MinInt))
		case 2:
			from = oneOf(&d, -1, nearEdge+1, math.MaxInt)
		}
		want, ok := dashedAsTold(l, dash, from)
		if !ok {
			bad++
			checkNotDashed(t, "any line", l, dash, from)
			continue
		}
		good, dashes = good+1, dashes+len(want)
		checkDashed(t, l, dash, from, want...)
	}
	if good < 3000 || bad < 500 || dashes < 12000 {
		t.Error("only", good, "good,", bad, "others,", dashes, "dashes")
	}
}

func boxOf(points []impl.Point) (least, greatest impl.Point) {
	least, greatest = points[0], points[0]
	for _, p := range points {
		least = at(min(least.X, p.X), min(least.Y, p.Y))
		greatest = at(max(greatest.X, p.X), max(greatest.Y, p.Y))
	}
	return least, greatest
}

// onSegment tells whether a place lies in the box of one of the line's segments.
func onSegment(p impl.Point, points []impl.Point) bool {
	for k := range len(points) - 1 {
		least, greatest := boxOf(points[k : k+2])
		if least.X <= p.X && p.X <= greatest.X && least.Y <= p.Y && p.Y <= greatest.Y {
			return true
		}
	}
	return false
}

func TestDashesLieOnTheirLine(t *testing.T) {
	d := dice(103)
	for range 6000 {
		l := someNearLine(&d)
		dash, from := someDash(&d)
		got, ok := impl.Dashed(l, dash, from)
		if !ok || len(l.Points) < 2 {
			continue
		}
		points := slices.Clone(l.Points)
		if l.Closed {
			points = append(points, points[0])
		}
		for _, line := range got {
			for k, p := range line.Points {
				if !onSegment(p, points) {
					t.Fatalf("%v: Dashed %v from %d: %v lies beside it", l, dash, from, p)
				}
				// What is neither the first nor the last place of a dash is a point of the line.
				if k > 0 && k < len(line.Points)-1 && !slices.Contains(points, p) {
					t.Fatalf("%v: Dashed %v from %d: %v is no point of it", l, dash, from, p)
				}
			}
		}
	}
}

func TestLinesWithoutGapsAreWhole(t *testing.T) {
	d := dice(104)
	cut := 0
	for range 6000 {
		l := someNearLine(&d)
		checkDashed(t, l, nil, d.below(100), l)
		points := slices.Clone(l.Points)
		if l.Closed {
			points = append(points, points[0])
		}
		points = slices.Compact(points)
		got, ok := impl.Dashed(l, []int{1 + d.below(nearEdge), 0, 1 + d.below(nearEdge/8), 0}, d.below(nearEdge))
		if !ok || len(points) < 2 {
			continue
		}
		// Gaps of 0: each dash begins where the one ahead ends, and all points are passed, in order.
		here, next := points[0], 0
		for _, line := range got {
			if line.Closed || line.Points[0] != here {
				t.Fatalf("%v: a dash begins at %v, not at %v", l, line.Points[0], here)
			}
			for _, p := range line.Points {
				if next < len(points) && p == points[next] {
					next++
				}
			}
			here = line.Points[len(line.Points)-1]
		}
		if cut++; next != len(points) || here != points[len(points)-1] {
			t.Fatalf("%v: dashed without gaps it is %v", l, got)
		}
	}
	if cut < 2000 {
		t.Error("only", cut, "lines")
	}
}

func TestDashesAreNewMemory(t *testing.T) {
	room := pointsFor(0, 0, 5, 0, 5, 5, 0, 5, 77, 77, math.MaxInt, math.MinInt)
	before := slices.Clone(room)
	numbers := []int{3, 2, 0, 1, math.MinInt, math.MaxInt}
	kept := slices.Clone(numbers)
	for _, closed := range []bool{false, true} {
		for count := 1; count <= 4; count++ {
			l := impl.Line{Points: room[:count], Closed: closed}
			for _, dash := range [][]int{nil, make([]int, 3, 8), numbers[:1], numbers[:2], numbers[:3], numbers[:4], numbers[2:3]} {
				checkLinesApart(t, "Dashed", func() []impl.Line {
					got, ok := impl.Dashed(l, dash, 1)
					if !ok {
						t.Fatal(l, dash)
					}
					return got
				})
				if !slices.Equal(room, before) || !slices.Equal(numbers, kept) || !sameLine(l, impl.Line{Points: before[:count], Closed: closed}) {
					t.Fatal("Dashed writes into its argument, or answers its memory")
				}
			}
		}
	}
	checkNotDashed(t, "with what lies behind", impl.Line{Points: room}, numbers[:2], 0)
	checkNotDashed(t, "with what lies behind", impl.Line{Points: room[:4]}, numbers, 0)
	if !slices.Equal(room, before) || !slices.Equal(numbers, kept) {
		t.Error("Dashed writes into an argument that is not good")
	}
}

func TestDashedAtAnyArguments(t *testing.T) {
	extremes := []int{math.MinInt, math.MaxInt, math.MinInt + 1, -1, 0, 1, nearEdge, -nearEdge, nearEdge + 1}
	for _, a := range extremes {
		for _, b := range extremes {
			for _, c := range extremes {
				for _, e := range extremes {
					l := impl.Line{Points: pointsFor(0, 0, a, b), Closed: c < 0}
					if want, ok := dashedAsTold(l, []int{c, 1}, e); ok {
						checkDashed(t, l, []int{c, 1}, e, want...)
					} else {
						checkNotDashed(t, "any numbers", l, []int{c, 1}, e)
					}
					if isNear(at(a, b)) && isNear(at(c, e)) {
						checkSize(t, at(a, b), at(c, e), sizeAsTold(at(a, b), at(c, e)))
					} else {
						checkNoSize(t, at(a, b), at(c, e))
					}
				}
			}
		}
	}
}
