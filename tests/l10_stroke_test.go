package tests

import (
	"math"
	"slices"
	"testing"

	"loop.example/g00137/impl"
)

// thickEdge is how wide a pen may be.
const thickEdge = 64 * one

func penOf(width, join, end int, dash ...int) impl.Pen {
	return impl.Pen{Width: width, Join: join, Cap: end, Dash: dash}
}

func checkPen(t *testing.T, p impl.Pen, want bool) {
	t.Helper()
	if got := impl.GoodPen(p); got != want {
		t.Errorf("%v: GoodPen %v", p, got)
	}
}

func TestConstantsOfStrokes(t *testing.T) {
	got := []int{impl.JoinMiter, impl.JoinRound, impl.JoinBevel, impl.CapButt, impl.CapRound, impl.CapSquare}
	if !slices.Equal(got, []int{1, 2, 3, 1, 2, 3}) {
		t.Error(got)
	}
}

func TestGoodPen(t *testing.T) {
	good := func() impl.Pen { return impl.Pen{Width: one, Join: 1, Cap: 1, Dash: []int{1, 2}, From: 3} }
	checkPen(t, impl.Pen{}, false)
	checkPen(t, impl.Pen{Join: 1, Cap: 1}, true)
	checkPen(t, impl.Pen{Join: 1, Cap: 1, Dash: []int{}}, true)
	// Each field by itself: whether it may be so.
	for field, cases := range map[string]map[int]bool{
		"Width": {0: true, 1: true, thickEdge - 1: true, thickEdge: true, -1: false, thickEdge + 1: false, nearEdge: false, -thickEdge: false},
		"Join":  {0: false, 1: true, 2: true, 3: true, 4: false, -1: false, 256 + 1: false, 1<<32 + 1: false},
		"Cap":   {0: false, 1: true, 2: true, 3: true, 4: false, -1: false, 256 + 1: false, 1<<32 + 1: false},
		"From":  {0: true, 1: true, nearEdge - 1: true, nearEdge: true, -1: false, nearEdge + 1: false, -nearEdge: false},
		"Dash":  {0: true, 1: true, nearEdge - 1: true, nearEdge: true, -1: false, nearEdge + 1: false, -nearEdge: false},
	} {
		cases[math.MinInt], cases[math.MaxInt], cases[math.MinInt+1], cases[1<<62] = false, false, false, false
		for x, want := range cases {
			p := good()
			switch field {
			case "Width":
				p.Width = x
			case "Join":
				p.Join = x
			case "Cap":
				p.Cap = x
			case "From":
				p.From = x
			case "Dash":
				for k := range 8 {
					p.Dash = make([]int, 8)
					p.Dash[k] = x
					checkPen(t, p, want)
				}
				p.Dash = []int{x}
			}
			checkPen(t, p, want)
		}
	}
	for _, n := range []int{0, 1, nearEdge} {
		for _, count := range []int{0, 1, 2, 7, 8, 9, 10, 16, 100000} {
			p := good()
			p.Dash = slices.Repeat([]int{n}, count)
			checkPen(t, p, count <= 8)
		}
	}
	checkPen(t, impl.Pen{Width: thickEdge, Join: 3, Cap: 3, Dash: slices.Repeat([]int{nearEdge}, 8), From: nearEdge}, true)
	checkPen(t, impl.Pen{Width: math.MinInt, Join: math.MinInt, Cap: math.MinInt, Dash: []int{math.MinInt}, From: math.MinInt}, false)
	checkPen(t, impl.Pen{Width: math.MaxInt, Join: math.MaxInt, Cap: math.MaxInt, Dash: []int{math.MaxInt}, From: math.MaxInt}, false)
}

func checkSide(t *testing.T, a, b impl.Point, half, x, y int) {
	t.Helper()
	if got, ok := impl.SideOf(a, b, half); got != at(x, y) || !ok {
		t.Errorf("SideOf %v %v %d: %v, %v; not %d %d", a, b, half, got, ok, x, y)
	}
}

func checkNoSide(t *testing.T, a, b impl.Point, half int) {
	t.Helper()
	if got, ok := impl.SideOf(a, b, half); got != (impl.Point{}) || ok {
		t.Errorf("SideOf %v %v %d: %v, %v", a, b, half, got, ok)
	}
}

func TestSideOfByHand(t *testing.T) {
	for _, a := range pointsFor(0, 0, 7, -9, 100*one, -100*one) {
		to := func(x, y int) impl.Point { return at(a.X+x, a.Y+y) }
		for _, half := range []int{0, 1, 5, one, 32 * one, thickEdge - 1, thickEdge} {
			for _, far := range []int{1, 10, 4 * one, 900 * one} {
				checkSide(t, a, to(far, 0), half, 0, half)
				checkSide(t, a, to(-far, 0), half, 0, -half)
				checkSide(t, a, to(0, far), half, -half, 0)
				checkSide(t, a, to(0, -far), half, half, 0)
			}
			// The size of these is 1: both quotients are One.
			checkSide(t, a, to(1, 1), half, -half, half)
			checkSide(t, a, to(1, -1), half, half, half)
			checkSide(t, a, to(-1, 1), half, -half, -half)
			checkSide(t, a, to(-1, -1), half, half, -half)
		}
		// 4 / 5 is 52428.8 of 65536, 3 / 5 is 39321.6.
		checkSide(t, a, to(3*one, 4*one), one, -52429, 39322)
		checkSide(t, a, to(3*one, -4*one), one, 52429, 39322)
		checkSide(t, a, to(-3*one, 4*one), one, -52429, -39322)
		checkSide(t, a, to(-3*one, -4*one), one, 52429, -39322)
		checkSide(t, a, to(4, 3), 5*one, -196610, 262145)
		checkSide(t, a, to(-4, -3), 5*one, 196610, -262145)
		// Halves of the quotient and of the product go to the greater one.
		checkSide(t, a, to(0, -2), 1, 1, 0)
		checkSide(t, a, to(12, 5), 1, 0, 1)
		checkSide(t, a, to(-12, -5), 1, 0, -1)
		checkSide(t, a, to(2, -1), 2, 1, 2)
		checkSide(t, a, to(-2, -1), 3, 2, -3)
		checkSide(t, a, to(2, 1), 1, 0, 1)
		checkSide(t, a, to(2, -1), 1, 1, 1)
	}
}

func TestSideOfWrongArguments(t *testing.T) {
	e := nearEdge
	for _, p := range pointsFor(0, 0, 1, 2, -3, 4, e, e, -e, e, -e, -e) {
		for _, half := range []int{0, 1, one, thickEdge, thickEdge + 1, -1} {
			checkNoSide(t, p, p, half)
		}
	}
	checkSide(t, at(-e, 0), at(e, 0), thickEdge, 0, thickEdge)
	checkSide(t, at(e, -e), at(e, e), thickEdge, -thickEdge, 0)
	checkSide(t, at(-e, -e), at(e, e), thickEdge, -2965824, 2965824)
	for _, half := range []int{-1, thickEdge + 1, -thickEdge, nearEdge, 1 << 32, math.MinInt, math.MaxInt} {
		checkNoSide(t, at(0, 0), at(5, 0), half)
		checkNoSide(t, at(0, 0), at(-3, 4), half)
		checkNoSide(t, at(0, 0), at(math.MinInt, 4), half)
	}
	for _, x := range noNear {
		for _, half := range []int{0, one, math.MinInt, math.MaxInt} {
			for _, p := range []impl.Point{at(x, 0), at(0, x), at(x, x)} {
				checkNoSide(t, at(0, 0), p, half)
				checkNoSide(t, p, at(0, 0), half)
				checkNoSide(t, p, p, half)
				checkNoSide(t, p, at(x, 1), half)
			}
		}
	}
}

// sideAsTold takes both roundings by whole numbers of any size; like points have none.
func sideAsTold(a, b impl.Point, half int) impl.Point {
	if a == b {
		return impl.Point{}
	}
	n := whole(sizeAsTold(a, b))
	part := func(d int) int {
		share := nearestCut(times(d, one), n)
		return nearestCut(times(half, share), whole(one))
	}
	return at(part(a.Y-b.Y), part(b.X-a.X))
}

func TestSideOfAnyPoints(t *testing.T) {
	d := dice(105)
	for range 20000 {
		a, b, half := someNearPoint(&d), someNearPoint(&d), oneOf(&d, d.below(10), d.below(thickEdge+1), thickEdge)
		if a == b {
			checkNoSide(t, a, b, half)
			continue
		}
		want := sideAsTold(a, b, half)
		checkSide(t, a, b, half, want.X, want.Y)
	}
}

func checkStroke(t *testing.T, l []impl.Line, p impl.Pen, want ...impl.Line) {
	t.Helper()
	if got, ok := impl.StrokeLines(l, p); !sameLines(got, want) || !ok {
		t.Errorf("%v: StrokeLines with %v: %v, %v; not %v", l, p, got, ok, want)
	}
}

func checkNoStroke(t *testing.T, name string, l []impl.Line, p impl.Pen) {
	t.Helper()
	if got, ok := impl.StrokeLines(l, p); len(got) != 0 || ok {
		t.Errorf("%s: %d lines: StrokeLines with %v: %d lines, %v", name, len(l), p, len(got), ok)
	}
}

// circleAt tells a round join or cap.
func circleAt(x, y, half int) impl.Line { return ring(roundAsTold(x, y, half, half, 0, 31)) }

func inOnes(l impl.Line) impl.Line {
	out := impl.Line{Closed: l.Closed}
	for _, p := range l.Points {
		out.Points = append(out.Points, at(p.X*one, p.Y*one))
	}
	return out
}

func allInOnes(lines ...impl.Line) []impl.Line {
	var out []impl.Line
	for _, l := range lines {
		out = append(out, inOnes(l))
	}
	return out
}

func TestStrokesOfOneSegment(t *testing.T) {
	p := penOf(2*one, impl.JoinBevel, impl.CapButt)
	checkStroke(t, allInOnes(openLine(0, 0, 4, 0)), p, allInOnes(ringLine(0, 1, 4, 1, 4, -1, 0, -1))...)
	checkStroke(t, allInOnes(openLine(4, 0, 0, 0)), p, allInOnes(ringLine(4, -1, 0, -1, 0, 1, 4, 1))...)
	checkStroke(t, allInOnes(openLine(0, 0, 0, 4)), p, allInOnes(ringLine(-1, 0, -1, 4, 1, 4, 1, 0))...)
	checkStroke(t, allInOnes(openLine(0, 4, 0, 0)), p, allInOnes(ringLine(1, 4, 1, 0, -1, 0, -1, 4))...)
	checkStroke(t, []impl.Line{openLine(0, 0, 3, 4)}, penOf(10*one, 1, 1), ringLine(-262145, 196610, 3-262145, 4+196610, 3+262145, 4-196610, 262145, -196610))
	for join := 1; join <= 3; join++ {
		body, line := inOnes(ringLine(0, 1, 4, 1, 4, -1, 0, -1)), allInOnes(openLine(0, 0, 4, 0))
		checkStroke(t, line, penOf(2*one, join, impl.CapButt), body)
		checkStroke(t, line, penOf(2*one, join, impl.CapRound), body, circleAt(0, 0, one), circleAt(4*one, 0, one))
		checkStroke(t, line, penOf(2*one, join, impl.CapSquare), append([]impl.Line{body}, allInOnes(ringLine(0, 1, -1, 1, -1, -1, 0, -1), ringLine(4, 1, 5, 1, 5, -1, 4, -1))...)...)
	}
	// Squares go on to all four sides.
	square := penOf(2*one, impl.JoinRound, impl.CapSquare)
	checkStroke(t, allInOnes(openLine(4, 0, 0, 0)), square, allInOnes(ringLine(4, -1, 0, -1, 0, 1, 4, 1), ringLine(4, -1, 5, -1, 5, 1, 4, 1), ringLine(0, -1, -1, -1, -1, 1, 0, 1))...)
	checkStroke(t, allInOnes(openLine(0, 0, 0, 4)), square, allInOnes(ringLine(-1, 0, -1, 4, 1, 4, 1, 0), ringLine(-1, 0, -1, -1, 1, -1, 1, 0), ringLine(-1, 4, -1, 5, 1, 5, 1, 4))...)
	checkStroke(t, allInOnes(openLine(0, 4, 0, 0)), square, allInOnes(ringLine(1, 4, 1, 0, -1, 0, -1, 4), ringLine(1, 4, 1, 5, -1, 5, -1, 4), ringLine(1, 0, 1, -1, -1, -1, -1, 0))...)
	// Aslant: with the side -4 3 (of half 5) a square goes on by 3 4.
	checkStroke(t, []impl.Line{openLine(0, 0, 3, 4)}, penOf(10, 1, 3), ringLine(-4, 3, -1, 7, 7, 1, 4, -3), ringLine(-4, 3, -7, -1, 1, -7, 4, -3), ringLine(-1, 7, 2, 11, 10, 5, 7, 1))
}

func TestStrokesOfCorners(t *testing.T) {
	bevel, miter, round := penOf(2*one, impl.JoinBevel, impl.CapButt), penOf(2*one, impl.JoinMiter, impl.CapButt), penOf(2*one, impl.JoinRound, impl.CapButt)
	for _, c := range []struct {
		line   impl.Line
		bands  []impl.Line
		corner impl.Line
	}{
		// Down behind right: the cross is above 0; up behind right: below 0; straight on and back: 0.
		{openLine(0, 0, 4, 0, 4, 4), []impl.Line{ringLine(0, 1, 4, 1, 4, -1, 0, -1), ringLine(3, 0, 3, 4, 5, 4, 5, 0)}, ringLine(4, 0, 4, -1, 5, 0)},
		{openLine(0, 0, 4, 0, 4, -4), []impl.Line{ringLine(0, 1, 4, 1, 4, -1, 0, -1), ringLine(5, 0, 5, -4, 3, -4, 3, 0)}, ringLine(4, 0, 4, 1, 5, 0)},
		{openLine(0, 0, 4, 0, 9, 0), []impl.Line{ringLine(0, 1, 4, 1, 4, -1, 0, -1), ringLine(4, 1, 9, 1, 9, -1, 4, -1)}, ringLine(4, 0, 4, -1, 4, -1)},
		{openLine(0, 0, 4, 0, 0, 0), []impl.Line{ringLine(0, 1, 4, 1, 4, -1, 0, -1), ringLine(4, -1, 0, -1, 0, 1, 4, 1)}, ringLine(4, 0, 4, -1, 4, 1)},
		// To the left.
		{openLine(0, 0, -4, 0, -4, -4), []impl.Line{ringLine(0, -1, -4, -1, -4, 1, 0, 1), ringLine(-3, 0, -3, -4, -5, -4, -5, 0)}, ringLine(-4, 0, -4, 1, -5, 0)},
		{openLine(0, 0, -4, 0, -4, 4), []impl.Line{ringLine(0, -1, -4, -1, -4, 1, 0, 1), ringLine(-5, 0, -5, 4, -3, 4, -3, 0)}, ringLine(-4, 0, -4, -1, -5, 0)},
		{openLine(0, 0, 0, 4, 4, 4), []impl.Line{ringLine(-1, 0, -1, 4, 1, 4, 1, 0), ringLine(0, 5, 4, 5, 4, 3, 0, 3)}, ringLine(0, 4, -1, 4, 0, 5)},
		{openLine(0, 0, 0, 4, -4, 4), []impl.Line{ringLine(-1, 0, -1, 4, 1, 4, 1, 0), ringLine(0, 3, -4, 3, -4, 5, 0, 5)}, ringLine(0, 4, 1, 4, 0, 5)},
	} {
		l, bands := allInOnes(c.line), allInOnes(c.bands...)
		checkStroke(t, l, bevel, append(slices.Clone(bands), inOnes(c.corner))...)
		checkStroke(t, l, miter, append(slices.Clone(bands), inOnes(c.corner))...)
		middle := inOnes(c.line).Points[1]
		checkStroke(t, l, round, append(slices.Clone(bands), circleAt(middle.X, middle.Y, one))...)
	}
}

func TestStrokesInOrder(t *testing.T) {
	l := allInOnes(openLine(0, 0, 4, 0, 4, 4, 8, 4))
	bands := allInOnes(ringLine(0, 1, 4, 1, 4, -1, 0, -1), ringLine(3, 0, 3, 4, 5, 4, 5, 0), ringLine(4, 5, 8, 5, 8, 3, 4, 3))
	bevels := allInOnes(ringLine(4, 0, 4, -1, 5, 0), ringLine(4, 4, 3, 4, 4, 5))
	rounds := []impl.Line{circleAt(4*one, 0, one), circleAt(4*one, 4*one, one)}
	caps := map[int][]impl.Line{
		impl.CapButt:   nil,
		impl.CapRound:  {circleAt(0, 0, one), circleAt(8*one, 4*one, one)},
		impl.CapSquare: allInOnes(ringLine(0, 1, -1, 1, -1, -1, 0, -1), ringLine(8, 5, 9, 5, 9, 3, 8, 3)),
	}
	other := inOnes(openLine(20, 0, 20, 4))
	for join, corners := range map[int][]impl.Line{impl.JoinMiter: bevels, impl.JoinRound: rounds, impl.JoinBevel: bevels} {
		for end, ends := range caps {
			p := penOf(2*one, join, end)
			want := slices.Concat(bands, corners, ends)
			checkStroke(t, l, p, want...)
			// Line by line: all of the first one ahead of all of the second one.
			second, ok := impl.StrokeLines([]impl.Line{other}, p)
			if !ok || len(second) == 0 {
				t.Fatal(second, ok)
			}
			checkStroke(t, []impl.Line{l[0], other}, p, slices.Concat(want, second)...)
			checkStroke(t, []impl.Line{other, {}, l[0], {Closed: true}}, p, slices.Concat(second, want)...)
		}
	}
}

func TestStrokesOfClosedLines(t *testing.T) {
	triangle := inOnes(ringLine(0, 0, 4, 0, 4, 4))
	s := sideAsTold(at(4*one, 4*one), at(0, 0), one)
	back := impl.Line{Points: []impl.Point{at(4*one+s.X, 4*one+s.Y), s, at(-s.X, -s.Y), at(4*one-s.X, 4*one-s.Y)}, Closed: true}
	bands := append(allInOnes(ringLine(0, 1, 4, 1, 4, -1, 0, -1), ringLine(3, 0, 3, 4, 5, 4, 5, 0)), back)
	corners := []impl.Line{
		{Points: []impl.Point{at(0, 0), at(-s.X, -s.Y), at(0, -one)}, Closed: true},
		inOnes(ringLine(4, 0, 4, -1, 5, 0)),
		{Points: []impl.Point{at(4*one, 4*one), at(5*one, 4*one), at(4*one-s.X, 4*one-s.Y)}, Closed: true},
	}
	rounds := []impl.Line{circleAt(0, 0, one), circleAt(4*one, 0, one), circleAt(4*one, 4*one, one)}
	// A closed line has no ends, whatever the cap.
	for end := 1; end <= 3; end++ {
		for _, l := range []impl.Line{triangle, inOnes(ringLine(0, 0, 4, 0, 4, 4, 0, 0)), inOnes(ringLine(0, 0, 0, 0, 4, 0, 4, 4, 4, 4, 0, 0, 0, 0)), inOnes(ringLine(0, 0, 4, 0, 4, 4, 0, 0, 0, 0, 0, 0))} {
			checkStroke(t, []impl.Line{l}, penOf(2*one, impl.JoinBevel, end), slices.Concat(bands, corners)...)
			checkStroke(t, []impl.Line{l}, penOf(2*one, impl.JoinMiter, end), slices.Concat(bands, corners)...)
			checkStroke(t, []impl.Line{l}, penOf(2*one, impl.JoinRound, end), slices.Concat(bands, rounds)...)
		}
	}
	// Two points: there and back, with a corner at each.
	there := allInOnes(ringLine(0, 1, 4, 1, 4, -1, 0, -1), ringLine(4, -1, 0, -1, 0, 1, 4, 1))
	turns := allInOnes(ringLine(0, 0, 0, 1, 0, -1), ringLine(4, 0, 4, -1, 4, 1))
	for _, l := range []impl.Line{ringLine(0, 0, 4, 0), ringLine(0, 0, 4, 0, 0, 0), ringLine(0, 0, 4, 0, 0, 0, 0, 0), ringLine(0, 0, 4, 0, 4, 0)} {
		checkStroke(t, allInOnes(l), penOf(2*one, impl.JoinBevel, impl.CapSquare), slices.Concat(there, turns)...)
		checkStroke(t, allInOnes(l), penOf(2*one, impl.JoinRound, impl.CapRound), append(slices.Clone(there), circleAt(0, 0, one), circleAt(4*one, 0, one))...)
	}
	// The same points, not closed: the last one stays where it is like the first.
	checkStroke(t, allInOnes(openLine(0, 0, 4, 0, 0, 0)), penOf(2*one, impl.JoinBevel, impl.CapButt), append(slices.Clone(there), turns[1])...)
}

func TestStrokesOfFewPoints(t *testing.T) {
	for join := 1; join <= 3; join++ {
		for end := 1; end <= 3; end++ {
			for _, dash := range [][]int{nil, {0, 0}, {3}, {0, 1}} {
				p := penOf(2*one, join, end, dash...)
				checkStroke(t, nil, p)
				checkStroke(t, []impl.Line{}, p)
				for _, l := range []impl.Line{openLine(), ringLine(), openLine(1, 2), ringLine(1, 2), openLine(1, 2, 1, 2), ringLine(1, 2, 1, 2), ringLine(1, 2, 1, 2, 1, 2), openLine(nearEdge, -nearEdge)} {
					checkStroke(t, []impl.Line{l}, p)
					checkStroke(t, slices.Repeat([]impl.Line{l}, 100), p)
				}
				checkStroke(t, make([]impl.Line, 50000), p)
			}
		}
	}
}

func TestStrokesWithoutRepeats(t *testing.T) {
	for _, p := range []impl.Pen{penOf(2*one, 1, 1), penOf(one, 2, 2), penOf(thickEdge, 3, 3), penOf(7, 3, 2, 3, 2)} {
		for _, closed := range []bool{false, true} {
			plain := impl.Line{Points: pointsFor(0, 0, 50, 0, 50, 40, -10, 30), Closed: closed}
			want, ok := impl.StrokeLines([]impl.Line{plain}, p)
			if !ok || len(want) == 0 {
				t.Fatal(p, want, ok)
			}
			for k := range plain.Points {
				for _, more := range []int{1, 2, 10} {
					l := impl.Line{Points: slices.Insert(slices.Clone(plain.Points), k, slices.Repeat(plain.Points[k:k+1], more)...), Closed: closed}
					checkStroke(t, []impl.Line{l}, p, want...)
				}
			}
			// Not side by side they are points like others.
			if got, ok := impl.StrokeLines([]impl.Line{{Points: pointsFor(0, 0, 50, 0, 50, 40, 50, 0, -10, 30), Closed: closed}}, p); !ok || len(got) <= len(want) {
				t.Error(p, len(got), len(want))
			}
		}
	}
}

func TestStrokesOfThinPens(t *testing.T) {
	l := []impl.Line{openLine(0, 0, 10, 0, 10, 10), ringLine(1, 2, 30, 4, 5, 60)}
	for join := 1; join <= 3; join++ {
		for end := 1; end <= 3; end++ {
			// Nothing of the width 0, even where the dashes would be too many.
			checkStroke(t, l, penOf(0, join, end))
			checkStroke(t, l, penOf(0, join, end, 3, 2))
			checkStroke(t, []impl.Line{openLine(0, 0, nearEdge, 0)}, penOf(0, join, end, 1))
		}
	}
	// Of the width 1 half is 0: lines without an inside, but not nothing.
	checkStroke(t, l[:1], penOf(1, 3, 1), ringLine(0, 0, 10, 0, 10, 0, 0, 0), ringLine(10, 0, 10, 10, 10, 10, 10, 0), ringLine(10, 0, 10, 0, 10, 0))
	checkStroke(t, l[:1], penOf(1, 1, 3), ringLine(0, 0, 10, 0, 10, 0, 0, 0), ringLine(10, 0, 10, 10, 10, 10, 10, 0), ringLine(10, 0, 10, 0, 10, 0), ringLine(0, 0, 0, 0, 0, 0, 0, 0), ringLine(10, 10, 10, 10, 10, 10, 10, 10))
	still := ring(slices.Repeat(pointsFor(10, 0), impl.Circle))
	checkStroke(t, l[:1], penOf(1, 2, 1), ringLine(0, 0, 10, 0, 10, 0, 0, 0), ringLine(10, 0, 10, 10, 10, 10, 10, 0), still)
	checkStroke(t, []impl.Line{openLine(10, 0, 10, 10)}, penOf(1, 3, 2), ringLine(10, 0, 10, 10, 10, 10, 10, 0), still, ring(slices.Repeat(pointsFor(10, 10), impl.Circle)))
	// Half is down: of 2 and of 3 it is 1.
	checkStroke(t, []impl.Line{openLine(0, 0, 10, 0)}, penOf(2, 3, 1), ringLine(0, 1, 10, 1, 10, -1, 0, -1))
	checkStroke(t, []impl.Line{openLine(0, 0, 10, 0)}, penOf(3, 3, 1), ringLine(0, 1, 10, 1, 10, -1, 0, -1))
	// The widest pen at the edge goes beyond it.
	e, h := nearEdge, thickEdge/2
	checkStroke(t, []impl.Line{openLine(-e, e, e, e)}, penOf(thickEdge, 3, 3), ringLine(-e, e+h, e, e+h, e, e-h, -e, e-h), ringLine(-e, e+h, -e-h, e+h, -e-h, e-h, -e, e-h), ringLine(e, e+h, e+h, e+h, e+h, e-h, e, e-h))
	checkStroke(t, []impl.Line{openLine(-e, e, e, e)}, penOf(thickEdge, 3, 2), ringLine(-e, e+h, e, e+h, e, e-h, -e, e-h), circleAt(-e, e, h), circleAt(e, e, h))
}

func TestStrokesOfDashes(t *testing.T) {
	p := penOf(2, impl.JoinBevel, impl.CapButt, 3, 2)
	checkStroke(t, []impl.Line{openLine(0, 0, 10, 0)}, p, ringLine(0, 1, 3, 1, 3, -1, 0, -1), ringLine(5, 1, 8, 1, 8, -1, 5, -1))
	p.From = 4
	checkStroke(t, []impl.Line{openLine(0, 0, 10, 0)}, p, ringLine(1, 1, 4, 1, 4, -1, 1, -1), ringLine(6, 1, 9, 1, 9, -1, 6, -1))
	// Each line begins From anew.
	checkStroke(t, []impl.Line{openLine(0, 0, 4, 0), openLine(0, 9, 4, 9)}, p, ringLine(1, 1, 4, 1, 4, -1, 1, -1), ringLine(1, 10, 4, 10, 4, 8, 1, 8))
	// Dashes of a closed line have ends, and corners where they pass its points; at its first point there is none.
	square := []impl.Line{ringLine(0, 0, 4, 0, 4, 4, 0, 4)}
	checkStroke(t, square, penOf(2, 3, 1, 6, 2),
		ringLine(0, 1, 4, 1, 4, -1, 0, -1), ringLine(3, 0, 3, 2, 5, 2, 5, 0), ringLine(4, 0, 4, -1, 5, 0),
		ringLine(4, 3, 0, 3, 0, 5, 4, 5), ringLine(1, 4, 1, 2, -1, 2, -1, 4), ringLine(0, 4, 0, 5, -1, 4))
	checkStroke(t, square, penOf(2, 3, 3, 16),
		ringLine(0, 1, 4, 1, 4, -1, 0, -1), ringLine(3, 0, 3, 4, 5, 4, 5, 0), ringLine(4, 3, 0, 3, 0, 5, 4, 5), ringLine(1, 4, 1, 0, -1, 0, -1, 4),
		ringLine(4, 0, 4, -1, 5, 0), ringLine(4, 4, 5, 4, 4, 5), ringLine(0, 4, 0, 5, -1, 4),
		ringLine(0, 1, -1, 1, -1, -1, 0, -1), ringLine(1, 0, 1, -1, -1, -1, -1, 0))
	checkStroke(t, square, penOf(2, 3, 2, 2, 14), ringLine(0, 1, 2, 1, 2, -1, 0, -1), circleAt(0, 0, 1), circleAt(2, 0, 1))
	checkStroke(t, square, penOf(2, 3, 2, 0, 3))
	// Numbers that are all 0 are no dashes: the line stays closed.
	want, _ := impl.StrokeLines(square, penOf(2, 3, 2))
	checkStroke(t, square, penOf(2, 3, 2, 0, 0, 0), want...)
	if len(want) != 8 {
		t.Error(want)
	}
	// Too many dashes of one line are too many for all; of each line by itself they are not.
	thin := penOf(2, 3, 1, 1)
	checkNoStroke(t, "too many dashes", []impl.Line{openLine(0, 0, 601, 0)}, thin)
	checkNoStroke(t, "too many dashes", []impl.Line{openLine(0, 0, 4, 0), openLine(0, 0, 601, 0), openLine(0, 0, 4, 0)}, thin)
	checkNoStroke(t, "too many numbers", []impl.Line{openLine(0, 0, 1201, 0)}, penOf(2, 3, 1, 0, 1))
	checkStroke(t, slices.Repeat([]impl.Line{openLine(0, 0, 1200, 0)}, 300), penOf(2, 3, 1, 0, 1))
	if got, ok := impl.StrokeLines(slices.Repeat([]impl.Line{openLine(0, 0, 600, 0)}, 4), thin); !ok || len(got) != 1200 {
		t.Error(len(got), ok)
	}
	checkNoStroke(t, "too many points of them", slices.Repeat([]impl.Line{openLine(0, 0, 600, 0)}, 5), thin)
	checkNoStroke(t, "too many points of them", append(slices.Repeat([]impl.Line{openLine(0, 0, 600, 0)}, 4), openLine(0, 0, 1, 0)), thin)
	checkNoStroke(t, "too many points of them", slices.Repeat([]impl.Line{openLine(0, 0, 600, 0)}, 300), penOf(2, 2, 2, 1))
}

func TestStrokesHowManyPoints(t *testing.T) {
	p := penOf(2, 3, 1)
	for _, counts := range [][]int{{600}, {599, 1}, {300, 0, 300}, slices.Repeat([]int{2}, 300), slices.Repeat([]int{1}, 600)} {
		for _, closed := range []bool{false, true} {
			var l []impl.Line
			for _, count := range counts {
				l = append(l, zigzag(count, closed))
			}
			want, ok := strokesAsTold(l, p)
			if !ok {
				t.Fatal(counts)
			}
			checkStroke(t, l, p, want...)
			for _, width := range []int{0, 2} {
				p := penOf(width, 3, 1)
				checkNoStroke(t, "one point more", append(slices.Clone(l), openLine(1, 2)), p)
				checkNoStroke(t, "one point more", append([]impl.Line{openLine(1, 2), {}}, l...), p)
			}
		}
	}
	for _, count := range []int{601, 602, 1000, 100000} {
		checkNoStroke(t, "too many", []impl.Line{zigzag(count, false)}, p)
		checkNoStroke(t, "too many", []impl.Line{{Points: slices.Repeat(pointsFor(1, 2), count)}}, p)
		checkNoStroke(t, "too many", slices.Repeat([]impl.Line{openLine(1, 2)}, count), p)
		checkNoStroke(t, "too many", slices.Repeat([]impl.Line{openLine(1, 2)}, count), penOf(0, 3, 1))
	}
}

// loop is a closed line of so many points, no two side by side the same.
func loop(count int) impl.Line {
	l := zigzag(count, true)
	l.Points[count-1] = at(0, 5)
	return l
}

func TestStrokesHowMuchComesOut(t *testing.T) {
	count := func(l []impl.Line) int {
		sum := 0
		for _, line := range l {
			sum += len(line.Points)
		}
		return sum
	}
	made := func(closedPoints, pairs int) []impl.Line {
		return append(slices.Repeat([]impl.Line{openLine(0, 0, 1, 0)}, pairs), loop(closedPoints))
	}
	check := func(l []impl.Line, p impl.Pen, points int) {
		t.Helper()
		if told, ok := strokesAsTold(l, p); count(told) != points || ok != (points <= 8*impl.MaxPoints) {
			t.Fatal(count(told), ok)
		}
		for range 2 {
			if points > 8*impl.MaxPoints {
				checkNoStroke(t, "too much", l, p)
			} else if got, ok := impl.StrokeLines(l, p); count(got) != points || !ok {
				t.Error(count(got), ok)
			}
			slices.Reverse(l)
		}
	}
	// With bevels and round ends: 7 points of each point of a closed line, 68 of an open one of two.
	p := penOf(2, impl.JoinBevel, impl.CapRound)
	check(made(539, 15), p, 8*impl.MaxPoints-7)
	check(made(540, 15), p, 8*impl.MaxPoints)
	check(made(511, 18), p, 8*impl.MaxPoints+1)
	check(made(541, 15), p, 8*impl.MaxPoints+7)
	// With round joins and square ends: 36 and 12.
	p = penOf(2, impl.JoinRound, impl.CapSquare)
	check(made(133, 0), p, 8*impl.MaxPoints-12)
	check(made(133, 1), p, 8*impl.MaxPoints)
	check(made(133, 2), p, 8*impl.MaxPoints+12)
	check(made(134, 0), p, 8*impl.MaxPoints+24)
	checkNoStroke(t, "far too much", []impl.Line{zigzag(600, true)}, p)
	checkNoStroke(t, "far too much", []impl.Line{zigzag(600, false)}, p)
	checkNoStroke(t, "far too much", slices.Repeat([]impl.Line{openLine(0, 0, 1, 0)}, 300), penOf(2, 1, impl.CapRound))
}

func TestStrokesOfWrongArguments(t *testing.T) {
	good := []impl.Line{openLine(0, 0, 10, 0, 10, 10)}
	for _, x := range noNear {
		for _, width := range []int{0, 1, 2, thickEdge} {
			p := penOf(width, 2, 3)
			for k := range 3 {
				for _, closed := range []bool{false, true} {
					wrong := impl.Line{Points: pointsFor(0, 0, 10, 0, 10, 10), Closed: closed}
					wrong.Points[k].X = x
					checkNoStroke(t, "too far", []impl.Line{wrong}, p)
					wrong.Points[k] = at(0, x)
					checkNoStroke(t, "too far", []impl.Line{wrong}, p)
					checkNoStroke(t, "too far", []impl.Line{good[0], {}, wrong}, p)
					checkNoStroke(t, "too far", []impl.Line{wrong, good[0]}, p)
				}
			}
			checkNoStroke(t, "too far", []impl.Line{openLine(x, 0)}, p)
			checkNoStroke(t, "too far", []impl.Line{ringLine(0, x)}, p)
		}
	}
	for _, x := range []int{-1, nearEdge + 1, math.MinInt, math.MaxInt} {
		for _, l := range [][]impl.Line{nil, {{}}, good} {
			checkNoStroke(t, "no pen", l, impl.Pen{})
			checkNoStroke(t, "no pen", l, penOf(x, 1, 1))
			checkNoStroke(t, "no pen", l, penOf(2, x, 1))
			checkNoStroke(t, "no pen", l, penOf(2, 1, x))
			checkNoStroke(t, "no pen", l, penOf(2, 1, 1, x))
			checkNoStroke(t, "no pen", l, penOf(0, 1, 1, 1, 2, 3, x))
			checkNoStroke(t, "no pen", l, impl.Pen{Width: 2, Join: 1, Cap: 1, From: x})
			checkNoStroke(t, "no pen", l, penOf(thickEdge+1, 1, 1))
			checkNoStroke(t, "no pen", l, penOf(2, 0, 1))
			checkNoStroke(t, "no pen", l, penOf(2, 4, 1))
			checkNoStroke(t, "no pen", l, penOf(2, 1, 0))
			checkNoStroke(t, "no pen", l, penOf(0, 1, 4))
			checkNoStroke(t, "no pen", l, penOf(2, 1, 1, make([]int, 9)...))
		}
	}
}

// movedBy answers the point that lies from p by so many sides: 1 to it, -1 from it.
func movedBy(p, s impl.Point, times int) impl.Point { return at(p.X+s.X*times, p.Y+s.Y*times) }

// strokeAsTold walks over the points with the ones around each, and tells bands, corners and ends in three rows.
func strokeAsTold(l impl.Line, p impl.Pen) []impl.Line {
	points := slices.Compact(slices.Clone(l.Points))
	for l.Closed && len(points) > 1 && points[0] == points[len(points)-1] {
		points = points[:len(points)-1]
	}
	count, half := len(points), p.Width/2
	if count < 2 {
		return nil
	}
	var bands, corners, ends []impl.Line
	for k, b := range points {
		a, c := points[(k+count-1)%count], points[(k+1)%count]
		first, last := k == 0 && !l.Closed, k == count-1 && !l.Closed
		into, onward := sideAsTold(a, b, half), sideAsTold(b, c, half)
		if !last {
			bands = append(bands, ring([]impl.Point{movedBy(b, onward, 1), movedBy(c, onward, 1), movedBy(c, onward, -1), movedBy(b, onward, -1)}))
		}
		switch {
		case (first || last) && p.Cap == 2 || !first && !last && p.Join == 2:
			corner := circleAt(b.X, b.Y, half)
			if first || last {
				ends = append(ends, corner)
			} else {
				corners = append(corners, corner)
			}
		case first && p.Cap == 3:
			t := at(onward.Y, -onward.X)
			ends = append(ends, ring([]impl.Point{movedBy(b, onward, 1), movedBy(movedBy(b, onward, 1), t, -1), movedBy(movedBy(b, onward, -1), t, -1), movedBy(b, onward, -1)}))
		case last && p.Cap == 3:
			t := at(into.Y, -into.X)
			ends = append(ends, ring([]impl.Point{movedBy(b, into, 1), movedBy(movedBy(b, into, 1), t, 1), movedBy(movedBy(b, into, -1), t, 1), movedBy(b, into, -1)}))
		case !first && !last:
			way := -1
			if times(b.X-a.X, c.Y-b.Y).Cmp(times(b.Y-a.Y, c.X-b.X)) < 0 {
				way = 1
			}
			corners = append(corners, ring([]impl.Point{b, movedBy(b, into, way), movedBy(b, onward, way)}))
		}
	}
	return slices.Concat(bands, corners, ends)
}

func strokesAsTold(lines []impl.Line, p impl.Pen) ([]impl.Line, bool) {
	sum, out := 0, []impl.Line(nil)
	for _, l := range lines {
		sum += len(l.Points)
		if slices.ContainsFunc(l.Points, func(p impl.Point) bool { return !isNear(p) }) {
			return nil, false
		}
	}
	if sum > 600 || p.Width < 0 || p.Width > thickEdge || p.Join < 1 || p.Join > 3 || p.Cap < 1 || p.Cap > 3 || !areDash(p.Dash, p.From) {
		return nil, false
	}
	sum = 0
	for _, l := range lines {
		if p.Width == 0 || len(l.Points) == 0 {
			continue
		}
		dashes, ok := dashedAsTold(l, p.Dash, p.From)
		if !ok {
			return nil, false
		}
		for _, dash := range dashes {
			out = append(out, strokeAsTold(dash, p)...)
		}
	}
	for _, l := range out {
		sum += len(l.Points)
	}
	return out, sum <= 4800
}

func TestStrokesOfAnyLines(t *testing.T) {
	d := dice(106)
	good, bad, drawn := 0, 0, 0
	for range 6000 {
		var l []impl.Line
		for range d.below(4) {
			l = append(l, someNearLine(&d))
		}
		p := penOf(oneOf(&d, 0, 1, d.below(30), d.below(10*one), d.below(thickEdge+1), thickEdge), 1+d.below(3), 1+d.below(3))
		if d.below(2) == 0 {
			p.Dash, p.From = someDash(&d)
		}
		switch d.below(40) {
		case 0:
			l = append(l, impl.Line{}, openLine(0, oneOf(&d, noNear...)))
		case 1:
			p.Join = oneOf(&d, 0, 4)
		case 2:
			p.Cap = oneOf(&d, 0, 4)
		case 3:
			p.Width = oneOf(&d, -1, thickEdge+1)
		}
		want, ok := strokesAsTold(l, p)
		if !ok {
			bad++
			checkNoStroke(t, "any lines", l, p)
			continue
		}
		good, drawn = good+1, drawn+len(want)
		checkStroke(t, l, p, want...)
	}
	if good < 3000 || bad < 400 || drawn < 20000 {
		t.Error("only", good, "good,", bad, "others,", drawn, "drawn")
	}
}

func TestStrokesAreNewMemory(t *testing.T) {
	room := pointsFor(0, 0, 50, 0, 50, 0, 50, 50, 0, 50, 0, 0, 77, 77, math.MaxInt, math.MinInt)
	before := slices.Clone(room)
	numbers := []int{30, 20, 0, 10, math.MinInt, math.MaxInt}
	kept := slices.Clone(numbers)
	for join := 1; join <= 3; join++ {
		for end := 1; end <= 3; end++ {
			for _, dash := range [][]int{nil, numbers[2:3], numbers[:1], numbers[:3], numbers[:4]} {
				p := impl.Pen{Width: 8, Join: join, Cap: end, Dash: dash, From: 7}
				// Lines that lie in one another's memory.
				l := []impl.Line{{Points: room[:6], Closed: true}, {Points: room[:6]}, {Points: room[2:5], Closed: true}, {Points: room[:1]}, {}}
				checkLinesApart(t, "StrokeLines", func() []impl.Line {
					got, ok := impl.StrokeLines(l, p)
					if !ok {
						t.Fatal(p)
					}
					return got
				})
				same := []impl.Line{{Points: before[:6], Closed: true}, {Points: before[:6]}, {Points: before[2:5], Closed: true}, {Points: before[:1]}, {}}
				if !slices.Equal(room, before) || !slices.Equal(numbers, kept) || !sameLines(l, same) {
					t.Fatal("StrokeLines writes into its argument, or answers its memory")
				}
			}
		}
	}
	impl.GoodPen(impl.Pen{Dash: numbers[:2]})
	checkPen(t, impl.Pen{Join: 1, Cap: 1, Dash: numbers[:4]}, true)
	checkPen(t, impl.Pen{Join: 1, Cap: 1, Dash: numbers}, false)
	checkNoStroke(t, "with what lies behind", []impl.Line{{Points: room}}, penOf(2, 1, 1))
	checkNoStroke(t, "with what lies behind", []impl.Line{{Points: room[:6]}}, penOf(2, 1, 1, numbers...))
	if !slices.Equal(room, before) || !slices.Equal(numbers, kept) {
		t.Error("what is handed in is not as it was")
	}
}

func TestStrokesAtAnyArguments(t *testing.T) {
	extremes := []int{math.MinInt, math.MaxInt, math.MinInt + 1, -1, 0, 1, 2, 3, 4, thickEdge, thickEdge + 1, nearEdge, -nearEdge, nearEdge + 1}
	check := func(l []impl.Line, p impl.Pen) {
		t.Helper()
		if want, ok := strokesAsTold(l, p); ok {
			checkStroke(t, l, p, want...)
		} else {
			checkNoStroke(t, "any arguments", l, p)
		}
	}
	for _, a := range extremes {
		for _, b := range extremes {
			for _, c := range extremes {
				line := []impl.Line{{Points: pointsFor(0, 0, a, b, 10, 20), Closed: c > 0}}
				check(line, penOf(c, 1, 2))
				check(line, penOf(2, c, 3, 3*one))
				check([]impl.Line{openLine(0, 0, 10, 0, 20, 20)}, impl.Pen{Width: a, Join: 1, Cap: 3, Dash: []int{b, 2}, From: c})
				check([]impl.Line{openLine(0, 0, 10, 0, 20, 20)}, impl.Pen{Width: 9, Join: a, Cap: b, Dash: []int{c}})
				if want := at(a, b); isNear(want) && want != at(0, 0) && c >= 0 && c <= thickEdge {
					s := sideAsTold(at(0, 0), want, c)
					checkSide(t, at(0, 0), want, c, s.X, s.Y)
				} else {
					checkNoSide(t, at(0, 0), want, c)
				}
			}
		}
	}
}
