package tests

import (
	"math"
	"math/big"
	"slices"
	"testing"

	"loop.example/g00137/impl"
)

// pointsFor takes X and Y in turn.
func pointsFor(n ...int) []impl.Point {
	var l []impl.Point
	for k := 0; k < len(n); k += 2 {
		l = append(l, impl.Point{X: n[k], Y: n[k+1]})
	}
	return l
}

func openLine(n ...int) impl.Line { return impl.Line{Points: pointsFor(n...)} }

func ringLine(n ...int) impl.Line { return impl.Line{Points: pointsFor(n...), Closed: true} }

func sameLine(a, b impl.Line) bool { return a.Closed == b.Closed && slices.Equal(a.Points, b.Points) }

func sameLines(a, b []impl.Line) bool { return slices.EqualFunc(a, b, sameLine) }

func cloneLines(l []impl.Line) []impl.Line {
	out := slices.Clone(l)
	for k := range out {
		out[k].Points = slices.Clone(out[k].Points)
	}
	return out
}

func stepOf(kind int, n ...int) impl.Step { return impl.Step{Kind: kind, N: n} }

// checkLinesApart writes into each list of an answer and beyond its end, and looks whether another list or a later answer changes.
func checkLinesApart(t *testing.T, name string, call func() []impl.Line) {
	t.Helper()
	want := cloneLines(call())
	for k := range want {
		got := call()
		fill(got[k].Points, impl.Point{X: -7, Y: -7})
		got[k].Points = append(got[k].Points, impl.Point{X: -8, Y: -8})
		for i := range got[k].Points {
			got[k].Points[i] = impl.Point{X: -9, Y: -9}
		}
		for other := range got {
			if other != k && !sameLine(got[other], want[other]) {
				t.Errorf("%s: the lines %d and %d share memory", name, k, other)
			}
		}
		fill(got, ringLine(-7, -7))
		clear(got)
	}
	if again := call(); !sameLines(again, want) {
		t.Errorf("%s: what is answered hangs on an earlier answer", name)
	}
}

func checkCurve(t *testing.T, p []impl.Point, k, x, y int) {
	t.Helper()
	if got, ok := impl.CurveAt(p, k); got != (impl.Point{X: x, Y: y}) || !ok {
		t.Errorf("%v: CurveAt %d: %v, %v; not %d %d", p, k, got, ok, x, y)
	}
}

func checkNoCurve(t *testing.T, p []impl.Point, k int) {
	t.Helper()
	if got, ok := impl.CurveAt(p, k); got != (impl.Point{}) || ok {
		t.Errorf("%v: CurveAt %d: %v, %v", p, k, got, ok)
	}
}

func TestConstantsOfShapes(t *testing.T) {
	if impl.Curve != 8 || impl.Circle != 32 || impl.MaxPoints != 600 {
		t.Error(impl.Curve, impl.Circle, impl.MaxPoints)
	}
}

func TestCurvesBeginAndEndAtTheirPoints(t *testing.T) {
	most := impl.MaxFixed
	for _, x := range []int{0, 1, -1, 7, -255, 256, -256, 257, 511, -512, 513, one, -one, most - 1, most, 1 - most, -most} {
		for _, other := range []int{0, 3, -3, most, -most} {
			p := pointsFor(x, -x, other, other, -other, other, -x, x)
			checkCurve(t, p, 0, x, -x)
			checkCurve(t, p, impl.Curve, -x, x)
			p = pointsFor(x, other, most, -most, -most, most, other, x)
			checkCurve(t, p, 0, x, other)
			checkCurve(t, p, impl.Curve, other, x)
		}
	}
	for k := range impl.Curve + 1 {
		// Four points at one place are a curve that stays there, at the edges too.
		checkCurve(t, pointsFor(most, -most, most, -most, most, -most, most, -most), k, most, -most)
		checkCurve(t, pointsFor(-most, 5, -most, 5, -most, 5, -most, 5), k, -most, 5)
	}
}

func TestCurveAtEachPlaceByHand(t *testing.T) {
	weights := [4][]int{
		{512, 343, 216, 125, 64, 27, 8, 1, 0},
		{0, 147, 216, 225, 192, 135, 72, 21, 0},
		{0, 21, 72, 135, 192, 225, 216, 147, 0},
		{0, 1, 8, 27, 64, 125, 216, 343, 512},
	}
	for i, row := range weights {
		for k, w := range row {
			p := make([]impl.Point, 4)
			p[i] = impl.Point{X: 512, Y: -512}
			checkCurve(t, p, k, w, -w)
			p[i] = impl.Point{Y: 512 * one}
			checkCurve(t, p, k, 0, w*one)
		}
	}
	// A plain one, each place by hand.
	for k, want := range pointsFor(0, 0, 192, 337, 384, 584, 576, 747, 768, 832, 960, 845, 1152, 792, 1344, 679, 1536, 512) {
		checkCurve(t, pointsFor(0, 0, 512, 1024, 1024, 1024, 1536, 512), k, want.X, want.Y)
	}
}

func TestCurvesAreDividedDown(t *testing.T) {
	// One alone has the weights 343 216 125 64 27 8 1 from 1 on: only from 256 on it is 1.
	for k, want := range []int{1, 1, 0, 0, 0, 0, 0, 0, 0} {
		checkCurve(t, pointsFor(1, 0, 0, 1, 0, 0, 0, 0), k, want, 0)
	}
	for k, want := range []int{-1, -1, 0, 0, 0, 0, 0, 0, 0} {
		checkCurve(t, pointsFor(-1, 0, 0, 0, 0, 0, 0, 0), k, want, 0)
		checkCurve(t, pointsFor(0, 0, 0, 0, 0, 0, 0, -1), impl.Curve-k, 0, want)
	}
	// A half goes up on both sides of 0, and what is more than a half below 0 goes down.
	checkCurve(t, pointsFor(1, -1, 1, -1, 0, 0, 0, 0), 4, 1, 0)
	checkCurve(t, pointsFor(3, -3, 3, -3, 0, 0, 0, 0), 4, 2, -1)
	checkCurve(t, pointsFor(1, -1, 1, -1, 0, 1, 1, -1), 4, 1, 0)
	checkCurve(t, pointsFor(-2, -3, 0, -1, -1, -1, 0, 0), 4, -1, -1)
	checkCurve(t, pointsFor(-7, -5, -3, -2, -1, 0, 0, 1), 3, -3, -2)
	checkCurve(t, pointsFor(-1, 0, -1, 0, -1, 0, 0, 0), 5, -1, 0)
}

// curveAsTold halves nothing: it goes three times from each point towards the next, by whole numbers of any size.
func curveAsTold(p []impl.Point, k int) impl.Point {
	part := func(take func(impl.Point) int) int {
		var row []*big.Int
		for _, q := range p {
			row = append(row, whole(take(q)))
		}
		for len(row) > 1 {
			for i := range len(row) - 1 {
				here, next := new(big.Int).Mul(row[i], whole(8-k)), new(big.Int).Mul(row[i+1], whole(k))
				row[i] = here.Add(here, next)
			}
			row = row[:len(row)-1]
		}
		return downAsTold(row[0].Add(row[0], whole(256)), 512)
	}
	return impl.Point{X: part(func(q impl.Point) int { return q.X }), Y: part(func(q impl.Point) int { return q.Y })}
}

// someFar answers any fixed number, its edges and small ones often.
func someFar(d *dice) int {
	n := oneOf(d, d.below(4), d.below(2000), d.below(100)*one, d.below(impl.MaxFixed+1), impl.MaxFixed-d.below(3))
	if d.below(2) == 0 {
		return -n
	}
	return n
}

func somePoint(d *dice) impl.Point { return impl.Point{X: someFar(d), Y: someFar(d)} }

func TestCurvesOfAnyPoints(t *testing.T) {
	d := dice(91)
	for range 4000 {
		p := []impl.Point{somePoint(&d), somePoint(&d), somePoint(&d), somePoint(&d)}
		for k := range impl.Curve + 1 {
			want := curveAsTold(p, k)
			checkCurve(t, p, k, want.X, want.Y)
		}
	}
}

func TestCurveAtWrongArguments(t *testing.T) {
	p := pointsFor(1, 2, 3, 4, 5, 6, 7, 8, 9, 10)
	for k := range impl.Curve + 1 {
		for count := range 6 {
			if count != 4 {
				checkNoCurve(t, p[:count], k)
			}
		}
		checkNoCurve(t, nil, k)
		checkNoCurve(t, make([]impl.Point, 1000), k)
		for i := range 4 {
			for _, x := range noFixed {
				l := slices.Clone(p[:4])
				l[i].X = x
				checkNoCurve(t, l, k)
				l[i] = impl.Point{X: 1, Y: x}
				checkNoCurve(t, l, k)
			}
		}
	}
	for _, k := range []int{-1, impl.Curve + 1, -8, 16, 1 << 32, 1<<32 + 1, 1 << 61, math.MinInt, math.MaxInt} {
		checkNoCurve(t, p[:4], k)
		checkNoCurve(t, make([]impl.Point, 4), k)
	}
}

func checkLines(t *testing.T, steps []impl.Step, want ...impl.Line) {
	t.Helper()
	if got, ok := impl.LinesOf(steps); !sameLines(got, want) || !ok {
		t.Errorf("%v: LinesOf %v, %v; not %v", steps, got, ok, want)
	}
}

func checkNoLines(t *testing.T, name string, steps []impl.Step) {
	t.Helper()
	if got, ok := impl.LinesOf(steps); len(got) != 0 || ok {
		t.Errorf("%s: %v: LinesOf %v, %v", name, steps, got, ok)
	}
}

func TestLinesOfEachStep(t *testing.T) {
	m, z := stepOf(impl.StepMove, 1, 2), stepOf(impl.StepClose)
	l, l2 := stepOf(impl.StepLine, 3, -4), stepOf(impl.StepLine, 5, 6)
	checkLines(t, nil)
	checkLines(t, []impl.Step{})
	checkLines(t, []impl.Step{m})
	checkLines(t, []impl.Step{m, l}, openLine(1, 2, 3, -4))
	checkLines(t, []impl.Step{m, l, l2}, openLine(1, 2, 3, -4, 5, 6))
	checkLines(t, []impl.Step{m, l, l}, openLine(1, 2, 3, -4, 3, -4))
	checkLines(t, []impl.Step{m, l, z}, ringLine(1, 2, 3, -4))
	checkLines(t, []impl.Step{m, l, l2, z}, ringLine(1, 2, 3, -4, 5, 6))
	// Two points are a line, also where they are at one place.
	checkLines(t, []impl.Step{m, stepOf(impl.StepLine, 1, 2)}, openLine(1, 2, 1, 2))
	checkLines(t, []impl.Step{m, stepOf(impl.StepLine, 1, 2), z}, ringLine(1, 2, 1, 2))
	checkLines(t, []impl.Step{stepOf(impl.StepMove, impl.MaxFixed, -impl.MaxFixed), stepOf(impl.StepLine, -impl.MaxFixed, impl.MaxFixed)},
		openLine(impl.MaxFixed, -impl.MaxFixed, -impl.MaxFixed, impl.MaxFixed))
}

func TestLinesOfMoves(t *testing.T) {
	m, m2, m3 := stepOf(impl.StepMove, 1, 2), stepOf(impl.StepMove, 7, 8), stepOf(impl.StepMove, 9, 9)
	l, z := stepOf(impl.StepLine, 3, 4), stepOf(impl.StepClose)
	checkLines(t, []impl.Step{m, m2})
	checkLines(t, []impl.Step{m, m})
	checkLines(t, []impl.Step{m, m2, m3})
	checkLines(t, []impl.Step{m, m2, l}, openLine(7, 8, 3, 4))
	checkLines(t, []impl.Step{m, l, m2}, openLine(1, 2, 3, 4))
	checkLines(t, []impl.Step{m, l, m2, m3, l}, openLine(1, 2, 3, 4), openLine(9, 9, 3, 4))
	checkLines(t, []impl.Step{m, l, m2, l, z, m3, l, l}, openLine(1, 2, 3, 4), ringLine(7, 8, 3, 4), openLine(9, 9, 3, 4, 3, 4))
	// A line that is closed of one point alone is left out, too.
	checkLines(t, []impl.Step{m, z})
	checkLines(t, []impl.Step{m, z, m2})
	checkLines(t, []impl.Step{m, z, m2, z})
	checkLines(t, []impl.Step{m, z, m2, l}, openLine(7, 8, 3, 4))
	checkLines(t, []impl.Step{m, l, z, m2}, ringLine(1, 2, 3, 4))
	checkLines(t, []impl.Step{m, l, z, m2, l}, ringLine(1, 2, 3, 4), openLine(7, 8, 3, 4))
	checkLines(t, []impl.Step{m, l, m2, z, l}, openLine(1, 2, 3, 4), openLine(7, 8, 3, 4))
}

func TestLinesBehindAClose(t *testing.T) {
	m, z := stepOf(impl.StepMove, 1, 2), stepOf(impl.StepClose)
	l, l2, l3 := stepOf(impl.StepLine, 3, 4), stepOf(impl.StepLine, 5, 6), stepOf(impl.StepLine, 0, -9)
	c := stepOf(impl.StepCurve, 513, 2, 1, 514, 513, 514)
	checkLines(t, []impl.Step{m, l, z, l2}, ringLine(1, 2, 3, 4), openLine(1, 2, 5, 6))
	checkLines(t, []impl.Step{m, l, z, l2, l3}, ringLine(1, 2, 3, 4), openLine(1, 2, 5, 6, 0, -9))
	checkLines(t, []impl.Step{m, l, z, l2, z}, ringLine(1, 2, 3, 4), ringLine(1, 2, 5, 6))
	checkLines(t, []impl.Step{m, l, z, l2, z, l3}, ringLine(1, 2, 3, 4), ringLine(1, 2, 5, 6), openLine(1, 2, 0, -9))
	checkLines(t, []impl.Step{m, l, z, z}, ringLine(1, 2, 3, 4))
	checkLines(t, []impl.Step{m, l, z, z, z, l2}, ringLine(1, 2, 3, 4), openLine(1, 2, 5, 6))
	checkLines(t, []impl.Step{m, z, l}, openLine(1, 2, 3, 4))
	checkLines(t, []impl.Step{m, z, z, l, z}, ringLine(1, 2, 3, 4))
	// X of the curve is 1 and 512 times the weights of its second and its last point, Y 2 and those of its third and its last one.
	behind := openLine(1, 2, 1+147+1, 2+21+1, 1+216+8, 2+72+8, 1+225+27, 2+135+27, 1+192+64, 2+192+64, 1+135+125, 2+225+125, 1+72+216, 2+216+216, 1+21+343, 2+147+343, 513, 514)
	checkLines(t, []impl.Step{m, c}, behind)
	checkLines(t, []impl.Step{m, l, z, c}, ringLine(1, 2, 3, 4), behind)
	checkLines(t, []impl.Step{m, z, c}, behind)
	closedBehind := impl.Line{Points: behind.Points, Closed: true}
	checkLines(t, []impl.Step{m, c, z, c, z}, closedBehind, closedBehind)
}

func TestLinesOfCurvesFromWhereTheyAre(t *testing.T) {
	ends := pointsFor(100, -200, 3000, 40, -77, 1001, 50, 60)
	var want []impl.Point
	for k := 1; k <= impl.Curve; k++ {
		want = append(want, curveAsTold(ends, k))
	}
	m, c := stepOf(impl.StepMove, 1, 2), stepOf(impl.StepCurve, 3000, 40, -77, 1001, 50, 60)
	checkLines(t, []impl.Step{stepOf(impl.StepMove, 100, -200), c}, impl.Line{Points: slices.Concat(ends[:1], want)})
	checkLines(t, []impl.Step{m, stepOf(impl.StepLine, 100, -200), c}, impl.Line{Points: slices.Concat(pointsFor(1, 2), ends[:1], want)})
	checkLines(t, []impl.Step{m, stepOf(impl.StepCurve, 5, 5, 6, 6, 100, -200), c, stepOf(impl.StepLine, 1, 1), stepOf(impl.StepClose)},
		impl.Line{Points: slices.Concat(linesFor(t, m, stepOf(impl.StepCurve, 5, 5, 6, 6, 100, -200))[0].Points, want, pointsFor(1, 1)), Closed: true})
	if want[7] != ends[3] {
		t.Error("a curve ends at", want[7])
	}
}

func linesFor(t *testing.T, steps ...impl.Step) []impl.Line {
	t.Helper()
	l, ok := impl.LinesOf(steps)
	if !ok {
		t.Fatalf("%v are no steps", steps)
	}
	return l
}

func TestLinesOfWrongSteps(t *testing.T) {
	m, l, z := stepOf(impl.StepMove, 1, 2), stepOf(impl.StepLine, 3, 4), stepOf(impl.StepClose)
	c := stepOf(impl.StepCurve, 1, 2, 3, 4, 5, 6)
	for _, first := range []impl.Step{l, c, z} {
		checkNoLines(t, "no move ahead", []impl.Step{first})
		checkNoLines(t, "no move ahead", []impl.Step{first, m, l})
	}
	for _, kind := range []int{0, -1, 5, 6, 256 + impl.StepMove, 1<<32 + impl.StepLine, math.MinInt, math.MaxInt} {
		for count := range 8 {
			wrong := stepOf(kind, make([]int, count)...)
			checkNoLines(t, "no kind", []impl.Step{wrong})
			checkNoLines(t, "no kind", []impl.Step{m, l, wrong})
			checkNoLines(t, "no kind", []impl.Step{m, wrong, l})
		}
	}
	for kind, right := range map[int]int{impl.StepMove: 2, impl.StepLine: 2, impl.StepCurve: 6, impl.StepClose: 0} {
		for _, count := range []int{0, 1, 2, 3, 4, 5, 6, 7, 8, 12, 1000} {
			s := stepOf(kind, make([]int, count)...)
			if _, ok := impl.LinesOf([]impl.Step{m, l, s, l}); ok != (count == right) {
				t.Errorf("kind %d with %d numbers: %v", kind, count, ok)
			}
			if count != right {
				checkNoLines(t, "so many numbers", []impl.Step{m, l, s, l})
				checkNoLines(t, "so many numbers", []impl.Step{s, l})
			}
		}
		for place := range right {
			for _, x := range noFixed {
				s := stepOf(kind, make([]int, right)...)
				s.N[place] = x
				checkNoLines(t, "not fixed", []impl.Step{m, l, s})
				checkNoLines(t, "not fixed", []impl.Step{s, l})
			}
		}
	}
}

func TestLinesHowMany(t *testing.T) {
	for _, more := range []impl.Step{stepOf(impl.StepMove, 3, 4), stepOf(impl.StepLine, 5, 6), stepOf(impl.StepCurve, 1, 2, 3, 4, 5, 6), stepOf(impl.StepClose)} {
		for _, count := range []int{impl.MaxSteps - 1, impl.MaxSteps, impl.MaxSteps + 1, impl.MaxSteps + 2, 1000} {
			steps := append([]impl.Step{stepOf(impl.StepMove, 1, 2)}, slices.Repeat([]impl.Step{more}, count-1)...)
			want, ok := linesAsTold(steps)
			if ok != (count <= impl.MaxSteps) {
				t.Fatal(count, ok)
			}
			if ok {
				checkLines(t, steps, want...)
			} else {
				checkNoLines(t, "too many steps", steps)
			}
		}
	}
	// No steps have more points than a move and curves; MaxPoints are not met.
	steps := append([]impl.Step{stepOf(impl.StepMove, 1, 2)}, slices.Repeat([]impl.Step{stepOf(impl.StepCurve, 1, 2, 3, 4, 5, 6)}, impl.MaxSteps-1)...)
	if l := linesFor(t, steps...); len(l) != 1 || len(l[0].Points) != 1+8*59 {
		t.Error(len(l))
	}
}

// linesAsTold cuts the steps into stretches, each with the point that it begins at, and makes a line of each.
func linesAsTold(steps []impl.Step) ([]impl.Line, bool) {
	sizes := map[int]int{impl.StepMove: 2, impl.StepLine: 2, impl.StepCurve: 6, impl.StepClose: 0}
	var lines []impl.Line
	var line impl.Line
	for k, s := range steps {
		size, known := sizes[s.Kind]
		if !known || len(s.N) != size || slices.ContainsFunc(s.N, func(x int) bool { return !impl.GoodFixed(x) }) || k == 0 && s.Kind != impl.StepMove {
			return nil, false
		}
		if s.Kind == impl.StepMove {
			lines, line = append(lines, line), impl.Line{}
		} else if line.Closed {
			lines, line = append(lines, line), impl.Line{Points: slices.Clone(line.Points[:1])}
		}
		p := pointsFor(s.N...)
		switch s.Kind {
		case impl.StepCurve:
			from := line.Points[len(line.Points)-1]
			for j := 1; j <= 8; j++ {
				line.Points = append(line.Points, curveAsTold([]impl.Point{from, p[0], p[1], p[2]}, j))
			}
		case impl.StepClose:
			line.Closed = true
		default:
			line.Points = append(line.Points, p...)
		}
	}
	lines = slices.DeleteFunc(append(lines, line), func(l impl.Line) bool { return len(l.Points) < 2 })
	return lines, len(steps) <= impl.MaxSteps
}

func someSteps(d *dice) []impl.Step {
	var l []impl.Step
	for k := range d.below(14) {
		kind := oneOf(d, impl.StepMove, impl.StepLine, impl.StepLine, impl.StepCurve, impl.StepClose, impl.StepClose)
		if k == 0 && d.below(20) > 0 {
			kind = impl.StepMove
		}
		s := stepOf(kind)
		for range map[int]int{impl.StepMove: 2, impl.StepLine: 2, impl.StepCurve: 6}[kind] {
			s.N = append(s.N, someFar(d))
		}
		l = append(l, s)
	}
	if len(l) > 0 && d.below(6) == 0 {
		s := &l[d.below(len(l))]
		switch d.below(4) {
		case 0:
			s.Kind = d.below(7) - 1
		case 1:
			s.N = append(s.N, 1)
		case 2:
			s.N = s.N[:len(s.N)/2]
		default:
			s.N = append(s.N[:len(s.N)/2], oneOf(d, noFixed...))
		}
	}
	return l
}

func TestLinesOfAnySteps(t *testing.T) {
	d := dice(92)
	good, bad := 0, 0
	for range 20000 {
		steps := someSteps(&d)
		if want, ok := linesAsTold(steps); ok {
			good++
			checkLines(t, steps, want...)
		} else {
			bad++
			checkNoLines(t, "any steps", steps)
		}
	}
	if good < 5000 || bad < 1000 {
		t.Error("only", good, "good and", bad, "others")
	}
}

func TestLinesOfWhatPathsTell(t *testing.T) {
	for s, want := range map[string][]impl.Line{
		"":                       nil,
		"M1 1":                   nil,
		"M1 1z":                  nil,
		"M0 0L1 0z l2 2":         {ringLine(0, 0, one, 0), openLine(0, 0, 2*one, 2*one)},
		"m1 1 2 0v3z":            {ringLine(one, one, 3*one, one, 3*one, 4*one)},
		"M0 0h1M5 5M6 6v1zzzh-1": {openLine(0, 0, one, 0), ringLine(6*one, 6*one, 6*one, 7*one), openLine(6*one, 6*one, 5*one, 6*one)},
	} {
		checkLines(t, stepsFor(t, s), want...)
	}
}

func checkMoved(t *testing.T, a impl.Affine, l []impl.Line, want ...impl.Line) {
	t.Helper()
	if got, ok := impl.MoveLines(a, l); !sameLines(got, want) || !ok {
		t.Errorf("%v: %v: MoveLines %v, %v; not %v", a, l, got, ok, want)
	}
}

func checkNotMoved(t *testing.T, name string, a impl.Affine, l []impl.Line) {
	t.Helper()
	if got, ok := impl.MoveLines(a, l); len(got) != 0 || ok {
		t.Errorf("%s: %v: %v: MoveLines %v, %v", name, a, l, got, ok)
	}
}

func TestWhatIsNotMovedStays(t *testing.T) {
	d := dice(93)
	most := impl.MaxFixed
	checkMoved(t, same, nil)
	checkMoved(t, same, []impl.Line{})
	checkMoved(t, same, []impl.Line{openLine()}, openLine())
	checkMoved(t, same, []impl.Line{ringLine(), openLine(), ringLine(1, 2), ringLine()}, ringLine(), openLine(), ringLine(1, 2), ringLine())
	edge := []impl.Line{ringLine(most, -most, -most, most, most, most, 0, 0), openLine(most-1, 1-most)}
	checkMoved(t, same, edge, edge...)
	for range 2000 {
		l := someLines(&d)
		checkMoved(t, same, l, l...)
	}
}

func someLines(d *dice) []impl.Line {
	var l []impl.Line
	for range d.below(6) {
		line := impl.Line{Closed: d.below(2) == 0}
		for range d.below(6) {
			line.Points = append(line.Points, somePoint(d))
		}
		l = append(l, line)
	}
	return l
}

func TestMoveLinesByHand(t *testing.T) {
	l := []impl.Line{openLine(0, 0, one, 0, 0, one), ringLine(one, 2*one, -3, 5)}
	checkMoved(t, impl.Affine{A: one, D: one, E: 10, F: -20}, l, openLine(10, -20, one+10, -20, 10, one-20), ringLine(one+10, 2*one-20, 7, -15))
	checkMoved(t, impl.Affine{A: 2 * one, D: -3 * one}, l, openLine(0, 0, 2*one, 0, 0, -3*one), ringLine(2*one, -6*one, -6, -15))
	checkMoved(t, impl.Affine{A: 2 * one, D: 2 * one, E: one, F: 7}, l, openLine(one, 7, 3*one, 7, one, 2*one+7), ringLine(3*one, 4*one+7, one-6, 17))
	// A quarter of the round takes x to y and y to what is left of 0.
	checkMoved(t, impl.Affine{B: one, C: -one}, l, openLine(0, 0, 0, one, -one, 0), ringLine(-2*one, one, -5, -3))
	checkMoved(t, impl.Affine{A: -one, D: -one}, l, openLine(0, 0, -one, 0, 0, -one), ringLine(-one, -2*one, 3, -5))
	// Each of the six by itself.
	checkMoved(t, impl.Affine{A: one}, l, openLine(0, 0, one, 0, 0, 0), ringLine(one, 0, -3, 0))
	checkMoved(t, impl.Affine{B: one}, l, openLine(0, 0, 0, one, 0, 0), ringLine(0, one, 0, -3))
	checkMoved(t, impl.Affine{C: one}, l, openLine(0, 0, 0, 0, one, 0), ringLine(2*one, 0, 5, 0))
	checkMoved(t, impl.Affine{D: one}, l, openLine(0, 0, 0, 0, 0, one), ringLine(0, 2*one, 0, 5))
	checkMoved(t, impl.Affine{E: 4}, l, openLine(4, 0, 4, 0, 4, 0), ringLine(4, 0, 4, 0))
	checkMoved(t, impl.Affine{F: 4}, l, openLine(0, 4, 0, 4, 0, 4), ringLine(0, 4, 0, 4))
	checkMoved(t, impl.Affine{}, l, openLine(0, 0, 0, 0, 0, 0), ringLine(0, 0, 0, 0))
	// Both products are rounded by themselves: halves go up, each of them.
	half := impl.Affine{A: one / 2, B: -one / 2, C: one / 2, D: one / 2}
	checkMoved(t, half, []impl.Line{openLine(1, 1, -1, -1, 3, -3, -1, 2)}, openLine(2, 1, 0, 1, 1, -2, 1, 2))
}

func TestMoveLinesWhereTheyAreNotFixed(t *testing.T) {
	most := impl.MaxFixed
	right, down := impl.Affine{A: one, D: one, E: 1}, impl.Affine{A: one, D: one, F: 1}
	checkMoved(t, right, []impl.Line{openLine(most-1, most)}, openLine(most, most))
	checkMoved(t, down, []impl.Line{openLine(most, most-1)}, openLine(most, most))
	checkMoved(t, right, []impl.Line{openLine(-most, -most)}, openLine(1-most, -most))
	for _, behind := range [][]impl.Line{nil, {openLine(0, 0)}} {
		checkNotMoved(t, "beyond, behind", right, append([]impl.Line{openLine(0, 0, most, 0)}, behind...))
		checkNotMoved(t, "beyond, behind", down, append([]impl.Line{openLine(), ringLine(0, most, 0, 0)}, behind...))
		checkNotMoved(t, "beyond, behind", impl.Affine{A: one, D: one, E: -1}, append([]impl.Line{openLine(-most, 0)}, behind...))
		checkNotMoved(t, "beyond, behind", impl.Affine{A: one, D: one, F: -1}, append([]impl.Line{openLine(0, -most)}, behind...))
		checkNotMoved(t, "beyond, behind", impl.Affine{A: one, C: one, D: one}, append([]impl.Line{openLine(most, 1)}, behind...))
		checkNotMoved(t, "beyond, behind", impl.Affine{A: one, B: one, D: one}, append([]impl.Line{openLine(1, most)}, behind...))
	}
	// Products are cut, as FixMul cuts them; what is added then counts.
	checkMoved(t, impl.Affine{A: 2 * one, D: one}, []impl.Line{openLine(most, 0)}, openLine(most, 0))
	checkMoved(t, impl.Affine{A: 2 * one, C: -one, D: one}, []impl.Line{openLine(most, 5)}, openLine(most-5, 5))
	checkMoved(t, impl.Affine{A: farthest, C: -farthest, B: -farthest, D: farthest}, []impl.Line{openLine(most, most)}, openLine(0, 0))
	checkNotMoved(t, "cut, and beyond", impl.Affine{A: 2 * one, D: one, E: 1}, []impl.Line{openLine(most, 0)})
	for _, x := range noFixed {
		for _, a := range []impl.Affine{same, {}, {E: 1, F: 1}, {A: 1, D: 1}} {
			checkNotMoved(t, "beyond, ahead", a, []impl.Line{openLine(x, 0)})
			checkNotMoved(t, "beyond, ahead", a, []impl.Line{openLine(0, x)})
			checkNotMoved(t, "beyond, ahead", a, []impl.Line{openLine(1, 2), ringLine(3, 4, 5, 6, 7, x), openLine()})
		}
	}
}

func TestMoveLinesByWhatIsNotGood(t *testing.T) {
	for k := range 6 {
		for _, x := range []int{farthest + 1, -farthest - 1, impl.MaxFixed, math.MinInt, math.MaxInt} {
			n := sixOf(same)
			n[k] = x
			checkNotMoved(t, "not good", affine(n), nil)
			checkNotMoved(t, "not good", affine(n), []impl.Line{openLine()})
			checkNotMoved(t, "not good", affine(n), []impl.Line{openLine(0, 0)})
		}
	}
	most := affine([6]int{farthest, -farthest, -farthest, farthest, farthest, -farthest})
	checkMoved(t, most, nil)
	checkMoved(t, most, []impl.Line{openLine(1, 0)}, openLine(farthest+one, -farthest-one))
}

func TestMoveLinesHowMany(t *testing.T) {
	a := impl.Affine{A: one, D: one, E: 1, F: 2}
	at := func(count, x, y int) impl.Line {
		return impl.Line{Points: slices.Repeat(pointsFor(x, y), count), Closed: count%2 == 0}
	}
	for _, counts := range [][]int{{600}, {599, 1}, {1, 599}, {300, 300}, {0, 600, 0}, {200, 0, 200, 200}, slices.Repeat([]int{1}, 600), slices.Repeat([]int{0}, 5000)} {
		var l, want []impl.Line
		for _, count := range counts {
			l, want = append(l, at(count, 5, 6)), append(want, at(count, 6, 8))
		}
		checkMoved(t, a, l, want...)
		if len(counts) == 5000 {
			continue
		}
		checkNotMoved(t, "one point more", a, append(slices.Clone(l), at(1, 5, 6)))
		checkNotMoved(t, "one point more", a, append([]impl.Line{at(1, 5, 6)}, l...))
		checkNotMoved(t, "one point more", same, append(slices.Clone(l), at(1, 5, 6), at(0, 0, 0)))
	}
	for _, count := range []int{601, 602, 1000, 100000} {
		checkNotMoved(t, "too many", a, []impl.Line{at(count, 5, 6)})
		checkNotMoved(t, "too many", same, []impl.Line{at(count, 5, 6)})
	}
}

// movedAsTold takes each product by whole numbers of any size.
func movedAsTold(n [6]int, l []impl.Line) ([]impl.Line, bool) {
	ok := goodAsTold(n)
	mul := func(a, b int) int { return nearestCut(times(a, b), whole(one)) }
	out := cloneLines(l)
	for i, line := range l {
		for k, p := range line.Points {
			q := impl.Point{X: mul(n[0], p.X) + mul(n[2], p.Y) + n[4], Y: mul(n[1], p.X) + mul(n[3], p.Y) + n[5]}
			ok = ok && impl.GoodFixed(p.X) && impl.GoodFixed(p.Y) && impl.GoodFixed(q.X) && impl.GoodFixed(q.Y)
			out[i].Points[k] = q
		}
	}
	return out, ok
}

func TestMoveLinesOfAnyLines(t *testing.T) {
	d := dice(94)
	good, bad := 0, 0
	for range 20000 {
		n, l := someSix(&d), someLines(&d)
		if d.below(2) == 0 {
			for i := range l {
				for k := range l[i].Points {
					l[i].Points[k] = impl.Point{X: l[i].Points[k].X >> 20, Y: l[i].Points[k].Y >> 20}
				}
			}
		}
		if d.below(10) == 0 && len(l) > 0 {
			l[0].Points = append(l[0].Points, impl.Point{X: oneOf(&d, noFixed...)})
		}
		if want, ok := movedAsTold(n, l); ok {
			good++
			checkMoved(t, affine(n), l, want...)
		} else {
			bad++
			checkNotMoved(t, "any lines", affine(n), l)
		}
	}
	if good < 4000 || bad < 4000 {
		t.Error("only", good, "good and", bad, "others")
	}
}

func TestLinesAreNewMemory(t *testing.T) {
	for _, s := range []string{"M1 1L2 2z", "M1 2 3 4 5 6zM3 3 4 4zl5 5C1 1 2 2 3 3zc1 1 2 2 3 3m4 4h1v1", "M1 1zl2 2zl3 3zl4 4zl5 5"} {
		steps := stepsFor(t, s)
		checkLinesApart(t, s, func() []impl.Line { return linesFor(t, steps...) })
	}
	// Lines that lie in one another's memory do not come back so.
	points := pointsFor(1, 2, 3, 4, 5, 6)
	l := []impl.Line{{Points: points}, {Points: points[1:], Closed: true}, {Points: points}, {}, {Points: points[:1]}}
	for _, a := range []impl.Affine{same, {A: 2 * one, D: one, F: 3}} {
		checkLinesApart(t, "MoveLines", func() []impl.Line {
			got, ok := impl.MoveLines(a, l)
			if !ok {
				t.Fatal(a)
			}
			return got
		})
	}
	if !slices.Equal(points, pointsFor(1, 2, 3, 4, 5, 6)) {
		t.Error("what is answered lies in an argument's memory")
	}
}

func TestLinesWriteIntoNoArgument(t *testing.T) {
	room := pointsFor(1, 2, 3, 4, 5, 6, 7, 8, math.MaxInt, math.MinInt)
	before := slices.Clone(room)
	checkCurve(t, room[:4], 4, 4, 5)
	checkNoCurve(t, room, 4)
	for _, a := range []impl.Affine{same, {A: 2 * one}, {E: -1}, {A: math.MaxInt}} {
		l := []impl.Line{{Points: room[:4], Closed: true}, {Points: room[:0]}, {Points: room}}
		impl.MoveLines(a, l[:2])
		if !slices.Equal(room, before) || !sameLines(l, []impl.Line{{Points: room[:4], Closed: true}, {}, {Points: room}}) {
			t.Fatal("MoveLines writes into its argument")
		}
		if a == same {
			checkMoved(t, a, l[:2], l[:2]...)
		}
		impl.MoveLines(a, l)
		if !slices.Equal(room, before) {
			t.Fatal("MoveLines writes into its argument")
		}
	}
	steps := append(stepsFor(t, "M1 2L3 4C1 2 3 4 5 6zM7 8l1 1z"), stepOf(math.MinInt, 1))
	for k := range steps {
		steps[k].N = append(steps[k].N, math.MaxInt)[:len(steps[k].N)]
	}
	kept := slices.Clone(steps)
	for k := range kept {
		kept[k].N = slices.Clone(steps[k].N[:len(steps[k].N)+1])
	}
	linesFor(t, steps[:len(steps)-1]...)
	checkNoLines(t, "one more", steps)
	for k, s := range steps {
		if s.Kind != kept[k].Kind || !slices.Equal(s.N[:len(s.N)+1], kept[k].N) {
			t.Error("LinesOf writes into its argument at", k)
		}
	}
}
