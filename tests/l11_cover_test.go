package tests

import (
	"math"
	"slices"
	"sync"
	"testing"

	"loop.example/g00137/impl"
)

func maskOf(wide, high int, cover ...int) impl.Mask {
	return impl.Mask{Wide: wide, High: high, Cover: cover}
}

// evenMask has one number for all pixels.
func evenMask(wide, high, n int) impl.Mask {
	return maskOf(wide, high, slices.Repeat([]int{n}, wide*high)...)
}

func sameMask(a, b impl.Mask) bool {
	return a.Wide == b.Wide && a.High == b.High && slices.Equal(a.Cover, b.Cover)
}

func checkCover(t *testing.T, l []impl.Line, even bool, want impl.Mask) {
	t.Helper()
	if got, ok := impl.CoverOf(l, want.Wide, want.High, even); !sameMask(got, want) || !ok {
		t.Errorf("%v: CoverOf, even %v: %v, %v; not %v", l, even, got, ok, want)
	}
}

// checkBothCovers is for lines that go round each place once at most.
func checkBothCovers(t *testing.T, l []impl.Line, want impl.Mask) {
	t.Helper()
	checkCover(t, l, false, want)
	checkCover(t, l, true, want)
}

func checkNoCover(t *testing.T, name string, l []impl.Line, wide, high int) {
	t.Helper()
	for _, even := range []bool{false, true} {
		if got, ok := impl.CoverOf(l, wide, high, even); !sameMask(got, impl.Mask{}) || ok {
			t.Errorf("%s: %d lines: CoverOf %d %d, even %v: %v, %v", name, len(l), wide, high, even, got, ok)
		}
	}
}

func fineRect(left, upper, right, lower int) impl.Line {
	return fineRing(left, upper, right, upper, right, lower, left, lower)
}

// samplesBetween counts the samples of one line of the pixel u, at 2, 6, 10 and 14, that are from a on and below b.
func samplesBetween(a, b, u int) int {
	count := 0
	for _, s := range []int{2, 6, 10, 14} {
		if a <= 16*u+s && 16*u+s < b {
			count++
		}
	}
	return count
}

func TestCoverOfRects(t *testing.T) {
	for left := -2; left <= 18; left++ {
		for right := left; right <= 34; right++ {
			want := maskOf(2, 1, 4*samplesBetween(left, right, 0), 4*samplesBetween(left, right, 1))
			checkBothCovers(t, []impl.Line{fineRect(left, 0, right, 16)}, want)
			checkBothCovers(t, []impl.Line{fineRect(left, -5, right, 15)}, want)
			want.Wide, want.High = 1, 2
			checkBothCovers(t, []impl.Line{fineRect(0, left, 16, right)}, want)
			checkBothCovers(t, []impl.Line{fineRect(2, left, 15, right)}, want)
		}
	}
	checkBothCovers(t, []impl.Line{fineRect(5, 3, 20, 11)}, maskOf(2, 1, 3*2+0, 1*2))
	checkBothCovers(t, []impl.Line{fineRect(16, 16, 32, 32)}, maskOf(3, 3, 0, 0, 0, 0, 16, 0, 0, 0, 0))
	checkBothCovers(t, []impl.Line{fineRect(8, 8, 40, 40)}, maskOf(3, 3, 4, 8, 4, 8, 16, 8, 4, 8, 4))
	checkBothCovers(t, []impl.Line{fineRect(32, 0, 48, 12)}, maskOf(3, 2, 0, 0, 12, 0, 0, 0))
	checkBothCovers(t, []impl.Line{fineRect(0, 16, 12, 32)}, maskOf(3, 2, 0, 0, 0, 12, 0, 0))
}

func TestCoverOfSlopes(t *testing.T) {
	// At X 2, 6, 10 and 14: right of a slope that goes through all of the pixel's samples they are within, left of it not.
	checkBothCovers(t, []impl.Line{fineRing(0, 0, 16, 0, 16, 16)}, maskOf(1, 1, 10))
	checkBothCovers(t, []impl.Line{fineRing(0, 0, 16, 16, 0, 16)}, maskOf(1, 1, 6))
	checkBothCovers(t, []impl.Line{fineRing(16, 0, 16, 16, 0, 16)}, maskOf(1, 1, 10))
	checkBothCovers(t, []impl.Line{fineRing(0, 0, 16, 0, 0, 16)}, maskOf(1, 1, 6))
	checkBothCovers(t, []impl.Line{fineRing(0, 0, 32, 0, 0, 32)}, maskOf(2, 2, 16, 6, 6, 0))
	checkBothCovers(t, []impl.Line{fineRing(32, 32, 32, 0, 0, 32)}, maskOf(2, 2, 0, 10, 10, 16))
	// Two slopes that meet: every sample belongs to one of both.
	for _, c := range [][]int{{0, 0, 16, 16}, {16, 0, 0, 16}, {3, 0, 12, 16}, {7, 0, 5, 16}, {2, 2, 14, 14}} {
		left, ok := impl.CoverOf([]impl.Line{fineRing(-20, c[1], c[0], c[1], c[2], c[3], -20, c[3])}, 1, 1, false)
		right, also := impl.CoverOf([]impl.Line{fineRing(c[0], c[1], 40, c[1], 40, c[3], c[2], c[3])}, 1, 1, false)
		if !ok || !also || left.Cover[0]+right.Cover[0] != 4*samplesBetween(c[1], c[3], 0) {
			t.Error(c, left, right)
		}
	}
	// The samples are fine places: what lies between two of them is not seen.
	checkBothCovers(t, []impl.Line{fineRect(3, 3, 6, 6)}, maskOf(1, 1, 0))
	checkBothCovers(t, []impl.Line{fineRect(2, 2, 3, 3)}, maskOf(1, 1, 1))
	checkBothCovers(t, []impl.Line{ringLine(0, 0, 16*one, 0, 16*one, fine/2-1, 0, fine/2-1)}, evenMask(16, 1, 0))
}

func TestCoverBeyondThePicture(t *testing.T) {
	e := nearEdge
	for _, wide := range []int{1, 2, 7, impl.MaxSide} {
		for _, high := range []int{1, 3, impl.MaxSide} {
			right, lower := wide*one, high*one
			for _, l := range []impl.Line{ringLine(-e, -e, e, -e, e, e, -e, e), ringLine(0, 0, right, 0, right, lower, 0, lower), ringLine(-1, -e, right, -one, right+1, lower+1, -e, lower), ringLine(-e, -e, e, -e, 40*one, 100*one, -e, e)} {
				checkBothCovers(t, []impl.Line{l}, evenMask(wide, high, 16))
			}
			for _, l := range []impl.Line{ringLine(-e, -e, 0, -e, 0, e, -e, e), ringLine(right, -e, e, -e, e, e, right, e), ringLine(-e, -e, e, -e, e, 0, -e, 0), ringLine(-e, lower, e, lower, e, e, -e, e), ringLine(-e, -e, e, -e, e, -e, -e, -e)} {
				checkBothCovers(t, []impl.Line{l}, evenMask(wide, high, 0))
			}
			for _, l := range [][]impl.Line{nil, {}, {{}}, {{Closed: true}}, {openLine(5, 5)}, {openLine(0, 0, right, lower)}} {
				checkBothCovers(t, l, evenMask(wide, high, 0))
			}
		}
	}
	// From one side in, up to the middle of a pixel.
	half := 3 * one / 2
	checkBothCovers(t, []impl.Line{ringLine(-e, -e, half, -e, half, e, -e, e)}, maskOf(3, 2, 16, 8, 0, 16, 8, 0))
	checkBothCovers(t, []impl.Line{ringLine(half, -e, e, -e, e, e, half, e)}, maskOf(3, 2, 0, 8, 16, 0, 8, 16))
	checkBothCovers(t, []impl.Line{ringLine(-e, -e, e, -e, e, half, -e, half)}, maskOf(2, 3, 16, 16, 8, 8, 0, 0))
	checkBothCovers(t, []impl.Line{ringLine(-e, half, e, half, e, e, -e, e)}, maskOf(2, 3, 0, 0, 8, 8, 16, 16))
}

func TestCoverOfSeveralRounds(t *testing.T) {
	outer, inner := fineRect(0, 0, 48, 48), fineRect(16, 16, 32, 32)
	whole, ringed := evenMask(3, 3, 16), maskOf(3, 3, 16, 16, 16, 16, 0, 16, 16, 16, 16)
	checkCover(t, []impl.Line{outer, inner}, false, whole)
	checkCover(t, []impl.Line{outer, inner}, true, ringed)
	checkCover(t, []impl.Line{outer, reversed(inner)}, false, ringed)
	checkCover(t, []impl.Line{outer, reversed(inner)}, true, ringed)
	checkCover(t, []impl.Line{outer, inner, inner}, true, whole)
	checkCover(t, []impl.Line{reversed(outer), reversed(inner)}, false, whole)
	checkCover(t, []impl.Line{reversed(outer), reversed(inner)}, true, ringed)
	checkCover(t, []impl.Line{reversed(outer), inner, inner, inner}, false, whole)
	checkCover(t, []impl.Line{reversed(outer), inner, inner, inner}, true, ringed)
	checkCover(t, []impl.Line{outer, outer}, false, whole)
	checkCover(t, []impl.Line{outer, outer}, true, evenMask(3, 3, 0))
	checkCover(t, []impl.Line{reversed(outer), reversed(outer), reversed(outer)}, true, whole)
	checkBothCovers(t, []impl.Line{outer, reversed(outer)}, evenMask(3, 3, 0))
	checkBothCovers(t, []impl.Line{fineRect(0, 0, 16, 48), fineRect(16, 0, 48, 48)}, whole)
	checkBothCovers(t, []impl.Line{fineRect(0, 0, 16, 48), reversed(fineRect(16, 0, 48, 48))}, whole)
}

func TestCoverOfOtherSides(t *testing.T) {
	l := []impl.Line{fineRect(0, 0, 48, 48)}
	for side := 1; side <= impl.MaxSide; side++ {
		for _, lines := range [][]impl.Line{l, nil} {
			for _, sides := range [][2]int{{side, 1}, {1, side}, {side, side}, {side, impl.MaxSide}} {
				got, ok := impl.CoverOf(lines, sides[0], sides[1], false)
				if !ok || !impl.GoodMask(got) || got.Wide != sides[0] || got.High != sides[1] {
					t.Error(sides, got, ok)
				}
			}
		}
		for _, wrong := range badSides {
			checkNoCover(t, "no side", l, wrong, side)
			checkNoCover(t, "no side", l, side, wrong)
			checkNoCover(t, "no side", nil, side, wrong)
		}
	}
	for _, a := range badSides {
		for _, b := range badSides {
			checkNoCover(t, "no sides", l, a, b)
			checkNoCover(t, "no sides", nil, a, b)
		}
	}
}

func TestCoverOfWrongLines(t *testing.T) {
	for _, n := range noNear {
		for k := range 4 {
			wrong := fineRect(0, 0, 48, 48)
			wrong.Points[k].X = n
			checkNoCover(t, "too far", []impl.Line{wrong}, 3, 3)
			wrong.Points[k] = at(0, n)
			checkNoCover(t, "too far", []impl.Line{wrong}, 3, 3)
			checkNoCover(t, "too far", []impl.Line{fineRect(0, 0, 9, 9), {}, wrong}, 3, 3)
			checkNoCover(t, "too far", []impl.Line{wrong}, 0, n)
		}
		checkNoCover(t, "too far", []impl.Line{openLine(0, n)}, 1, 1)
		checkNoCover(t, "too far", []impl.Line{openLine(n, 0)}, impl.MaxSide, impl.MaxSide)
	}
	most := 8 * impl.MaxPoints
	for _, counts := range [][]int{{most}, {most / 2, 0, most / 2}, slices.Repeat([]int{4}, most/4)} {
		l := manyPoints(counts...)
		checkCover(t, l, false, maskOf(2, 1, 4, 0))
		checkCover(t, l, true, maskOf(2, 1, 0, 0))
		checkNoCover(t, "one more", append(slices.Clone(l), openLine(0, 0)), 2, 1)
		checkNoCover(t, "one more", append([]impl.Line{openLine(0, 0)}, l...), 2, 1)
	}
	checkNoCover(t, "one more", manyPoints(most+1), 2, 1)
	checkNoCover(t, "far too many", manyPoints(200000), 2, 1)
	checkNoCover(t, "far too many", slices.Repeat([]impl.Line{openLine(1, 1)}, 200000), 2, 1)
}

func coverAsTold(l []impl.Line, wide, high int, even bool) impl.Mask {
	m := maskOf(wide, high)
	for v := range high {
		for u := range wide {
			count := 0
			for sample := range 16 {
				n := windingAsTold(l, 16*u+4*(sample%4)+2, 16*v+4*(sample/4)+2)
				if even && n&1 == 1 || !even && n != 0 {
					count++
				}
			}
			m.Cover = append(m.Cover, count)
		}
	}
	return m
}

// someCovering answers lines that go through a picture of these sides, and around it.
func someCovering(d *dice, wide, high int) []impl.Line {
	l := someWoundLines(d)
	for range d.below(3) {
		line := impl.Line{Closed: d.below(2) == 0}
		for range d.below(8) {
			line.Points = append(line.Points, at(d.below((wide+2)*one)-one, d.below((high+2)*one)-one))
		}
		l = append(l, line)
	}
	return l
}

func TestCoverOfAnyLines(t *testing.T) {
	d := dice(113)
	partly, wholly, without := 0, 0, 0
	for range 1500 {
		wide, high := 1+d.below(6), 1+d.below(6)
		if d.below(100) == 0 {
			wide, high = oneOf(&d, 1, impl.MaxSide), impl.MaxSide
		}
		l := someCovering(&d, wide, high)
		for _, even := range []bool{false, true} {
			want := coverAsTold(l, wide, high, even)
			checkCover(t, l, even, want)
			for _, n := range want.Cover {
				switch n {
				case 0:
					without++
				case 16:
					wholly++
				default:
					partly++
				}
			}
		}
	}
	if partly < 5000 || wholly < 5000 || without < 5000 {
		t.Error("only", partly, "partly,", wholly, "wholly,", without, "not at all")
	}
}

func TestCoverDoesNotHangOnWayNorBeginning(t *testing.T) {
	d := dice(114)
	drawn := 0
	for range 1200 {
		wide, high := 1+d.below(12), 1+d.below(12)
		l := someCovering(&d, wide, high)
		for _, even := range []bool{false, true} {
			want, ok := impl.CoverOf(l, wide, high, even)
			if sum, also := impl.SumOf(want); !ok || !also {
				t.Fatal(l, want)
			} else if sum > 0 {
				drawn++
			}
			back := make([]impl.Line, len(l))
			turned, some := slices.Clone(back), slices.Clone(back)
			for k, line := range l {
				back[k], turned[k], some[k] = reversed(line), line, line
				if len(line.Points) > 0 {
					turned[k] = begunAt(line, d.below(len(line.Points)))
				}
				if d.below(2) == 0 {
					some[k] = reversed(turned[k])
				}
				turned[k].Closed = !turned[k].Closed
			}
			checkCover(t, back, even, want)
			checkCover(t, turned, even, want)
			// With even each line by itself may go the other way; otherwise all of them, or one that is alone.
			if even || len(l) == 1 {
				checkCover(t, some, even, want)
			}
			slices.Reverse(back)
			checkCover(t, back, even, want)
		}
	}
	if drawn < 1000 {
		t.Error("only", drawn, "are not empty")
	}
	// Each beginning of one line that crosses itself, with samples just at its segments.
	star := fineRing(18, 2, 30, 34, 2, 14, 34, 14, 6, 34)
	for _, even := range []bool{false, true} {
		want := coverAsTold([]impl.Line{star}, 3, 3, even)
		for k := range star.Points {
			checkCover(t, []impl.Line{begunAt(star, k)}, even, want)
			checkCover(t, []impl.Line{reversed(begunAt(star, k))}, even, want)
		}
	}
}

func TestCoverOfShapes(t *testing.T) {
	// A circle of the radius 10 has the area 314.16 pixels; its polygon of 32 points a little less.
	round, ok := impl.EllipseOf(12*one, 12*one, 10*one, 10*one)
	m, also := impl.CoverOf([]impl.Line{round}, 24, 24, false)
	sum, good := impl.SumOf(m)
	if !ok || !also || !good || sum < 16*310 || sum > 16*314 {
		t.Error(ok, also, good, sum)
	}
	if m.Cover[12*24+12] != 16 || m.Cover[0] != 0 || m.Cover[23] != 0 || m.Cover[12*24+1] != 0 || m.Cover[12*24+2] < 10 {
		t.Error(m)
	}
	band, ok := impl.StrokeLines([]impl.Line{inOnes(openLine(2, 3, 8, 3))}, penOf(2*one, impl.JoinMiter, impl.CapButt))
	if !ok {
		t.Fatal(band)
	}
	want := evenMask(10, 6, 0)
	for x := 2; x < 8; x++ {
		want.Cover[2*10+x], want.Cover[3*10+x] = 16, 16
	}
	checkBothCovers(t, band, want)
}

func checkMask(t *testing.T, m impl.Mask, want bool) {
	t.Helper()
	if got := impl.GoodMask(m); got != want {
		t.Errorf("%d %d with %d numbers: GoodMask %v", m.Wide, m.High, len(m.Cover), got)
	}
	sum := 0
	for _, n := range m.Cover {
		sum += n
	}
	if !want {
		sum = 0
	}
	if got, ok := impl.SumOf(m); got != sum || ok != want {
		t.Errorf("%d %d with %d numbers: SumOf %d, %v; not %d", m.Wide, m.High, len(m.Cover), got, ok, sum)
	}
}

func TestGoodMask(t *testing.T) {
	checkMask(t, impl.Mask{}, false)
	checkMask(t, maskOf(1, 1), false)
	checkMask(t, maskOf(0, 0), false)
	for _, wide := range []int{1, 2, 35, impl.MaxSide} {
		for _, high := range []int{1, 3, impl.MaxSide} {
			for _, n := range []int{0, 1, 15, 16} {
				checkMask(t, evenMask(wide, high, n), true)
				few, many := evenMask(wide, high, n), evenMask(wide, high, n)
				few.Cover, many.Cover = few.Cover[1:], append(many.Cover, n)
				checkMask(t, few, false)
				checkMask(t, many, false)
				checkMask(t, maskOf(wide, high), false)
			}
			for _, wrong := range []int{-1, 17, -16, 32, 256, 1 << 32, 1<<32 + 3, math.MinInt, math.MaxInt} {
				for _, k := range []int{0, wide*high - 1, wide * high / 2} {
					m := evenMask(wide, high, 5)
					m.Cover[k] = wrong
					checkMask(t, m, false)
				}
			}
		}
	}
	for _, wrong := range badSides {
		for _, side := range []int{1, 2, 4, impl.MaxSide} {
			// As many numbers as the product tells, where so many can be, going beyond an int or not.
			for _, count := range []int{0, 1, 4, side, wrong * side} {
				if 0 <= count && count <= 10000 {
					checkMask(t, maskOf(wrong, side, make([]int, count)...), false)
					checkMask(t, maskOf(side, wrong, make([]int, count)...), false)
				}
			}
		}
	}
	// Products that are 0, or few, only because they go beyond an int.
	for _, sides := range [][2]int{{1 << 32, 1 << 32}, {1 << 62, 4}, {math.MinInt, 2}, {math.MinInt, math.MinInt}, {-1, -1}, {-2, -2}, {-36, -36}, {1<<32 + 1, 1<<32 - 1}, {math.MaxInt, math.MaxInt}, {math.MinInt, -1}} {
		for _, count := range []int{0, 1, 2, 4, 36 * 36} {
			checkMask(t, maskOf(sides[0], sides[1], make([]int, count)...), false)
			checkMask(t, maskOf(sides[1], sides[0], make([]int, count)...), false)
		}
	}
	checkMask(t, maskOf(37, 1, make([]int, 37)...), false)
	checkMask(t, maskOf(1, 37, make([]int, 37)...), false)
	checkMask(t, maskOf(2, 2, make([]int, 1000000)...), false)
}

func TestSumOfMasks(t *testing.T) {
	for side := 1; side <= impl.MaxSide; side++ {
		for n := 0; n <= 16; n++ {
			m := evenMask(side, 37-side, n)
			if got, ok := impl.SumOf(m); got != side*(37-side)*n || !ok {
				t.Error(side, n, got, ok)
			}
		}
	}
	for cover, want := range map[[4]int]int{{}: 0, {16, 16, 16, 16}: 64, {1, 2, 3, 4}: 10, {0, 0, 0, 16}: 16, {7, 0, 0, 0}: 7} {
		if got, ok := impl.SumOf(maskOf(2, 2, cover[:]...)); got != want || !ok {
			t.Error(cover, got, ok)
		}
	}
	for _, cover := range [][]int{{1, 2, 3}, {1, 2, 3, 17}, {-1, 2, 3, 4}, {1, 2, 3, 4, 5}, {}} {
		if got, ok := impl.SumOf(maskOf(2, 2, cover...)); got != 0 || ok {
			t.Error(cover, got, ok)
		}
	}
}

func checkMet(t *testing.T, a, b, want impl.Mask) {
	t.Helper()
	for range 2 {
		if got, ok := impl.MeetMasks(a, b); !sameMask(got, want) || !ok {
			t.Errorf("MeetMasks %v %v: %v, %v; not %v", a, b, got, ok, want)
		}
		a, b = b, a
	}
}

func checkNotMet(t *testing.T, name string, a, b impl.Mask) {
	t.Helper()
	for range 2 {
		if got, ok := impl.MeetMasks(a, b); !sameMask(got, impl.Mask{}) || ok {
			t.Errorf("%s: MeetMasks: %v, %v", name, got, ok)
		}
		a, b = b, a
	}
}

func TestMeetMasksOfEachNumber(t *testing.T) {
	for x := 0; x <= 16; x++ {
		for y := 0; y <= 16; y++ {
			// To the nearest, of two as near the greater.
			want := 0
			for 16*want+8 <= x*y {
				want++
			}
			checkMet(t, maskOf(1, 1, x), maskOf(1, 1, y), maskOf(1, 1, want))
			checkMet(t, maskOf(3, 1, 16, x, 0), maskOf(3, 1, y, y, y), maskOf(3, 1, y, want, 0))
		}
	}
	checkMet(t, maskOf(1, 1, 1), maskOf(1, 1, 8), maskOf(1, 1, 1))
	checkMet(t, maskOf(1, 1, 1), maskOf(1, 1, 7), maskOf(1, 1, 0))
	checkMet(t, maskOf(1, 1, 8), maskOf(1, 1, 8), maskOf(1, 1, 4))
	checkMet(t, maskOf(1, 1, 15), maskOf(1, 1, 15), maskOf(1, 1, 14))
	d := dice(115)
	for range 300 {
		wide, high := 1+d.below(impl.MaxSide), 1+d.below(impl.MaxSide)
		a, b := someMask(&d, wide, high), someMask(&d, wide, high)
		want := maskOf(wide, high)
		for k := range a.Cover {
			want.Cover = append(want.Cover, int(math.Floor(float64(a.Cover[k]*b.Cover[k])/16+0.5)))
		}
		checkMet(t, a, b, want)
		checkMet(t, a, evenMask(wide, high, 16), a)
		checkMet(t, a, evenMask(wide, high, 0), evenMask(wide, high, 0))
	}
}

func someMask(d *dice, wide, high int) impl.Mask {
	m := maskOf(wide, high)
	for range wide * high {
		m.Cover = append(m.Cover, d.below(17))
	}
	return m
}

func TestMeetMasksOfUnlikeOnes(t *testing.T) {
	for _, sides := range [][4]int{{2, 3, 3, 2}, {1, 1, 1, 2}, {1, 1, 2, 1}, {6, 1, 2, 3}, {36, 1, 1, 36}, {36, 36, 36, 35}, {36, 36, 35, 36}, {4, 9, 6, 6}} {
		checkNotMet(t, "unlike sides", evenMask(sides[0], sides[1], 5), evenMask(sides[2], sides[3], 5))
	}
	good := evenMask(2, 2, 9)
	for name, wrong := range map[string]impl.Mask{
		"nothing":         {},
		"one too few":     maskOf(2, 2, 1, 2, 3),
		"one too many":    maskOf(2, 2, 1, 2, 3, 4, 5),
		"a number below":  maskOf(2, 2, 1, 2, 3, -1),
		"a number above":  maskOf(2, 2, 17, 2, 3, 4),
		"the least int":   maskOf(2, 2, 1, math.MinInt, 3, 4),
		"the greatest":    maskOf(2, 2, 1, 2, math.MaxInt, 4),
		"sides below 0":   maskOf(-2, -2, 1, 2, 3, 4),
		"a flat side":     maskOf(4, 0, 1, 2, 3, 4),
		"other sides":     maskOf(4, 1, 1, 2, 3, 4),
		"the least sides": maskOf(math.MinInt, math.MinInt),
		"a long side":     maskOf(37, 1, make([]int, 37)...),
	} {
		checkNotMet(t, name, good, wrong)
		if name != "other sides" {
			checkNotMet(t, name, wrong, wrong)
		}
	}
}

func TestCoverAtAnyArguments(t *testing.T) {
	extremes := []int{math.MinInt, math.MinInt + 1, math.MaxInt, -1, 0, 1, 3, 36, 37, fineEdge, -fineEdge, nearEdge, -nearEdge, nearEdge + 1, 1 << 32}
	for _, a := range extremes {
		for _, b := range extremes {
			if isNear(at(a, b)) {
				checkFine(t, at(a, b), int(math.Floor(float64(a)/fine+0.5)), int(math.Floor(float64(b)/fine+0.5)))
			} else {
				checkNotFine(t, at(a, b))
			}
			for _, c := range extremes {
				l := []impl.Line{{Points: pointsFor(0, 0, a, b, 10*fine, c), Closed: c > 0}}
				near := isNear(at(a, b)) && isNear(at(0, c))
				for _, x := range []int{c, 5} {
					if near && max(b, -b) <= fineEdge && max(x, -x) <= fineEdge {
						checkWinding(t, l, x, b, windingAsTold(l, x, b))
					} else if b > fineEdge || b < -fineEdge || !near {
						checkNoWinding(t, "any numbers", l, x, b)
					}
				}
				if sides := at(a, c); near && min(a, c) > 0 && max(a, c) <= impl.MaxSide {
					checkCover(t, l, true, coverAsTold(l, sides.X, sides.Y, true))
				} else {
					checkNoCover(t, "any numbers", l, a, c)
				}
				checkMask(t, maskOf(a, b, c), a == 1 && b == 1 && c >= 0 && c <= 16)
				checkNotMet(t, "any numbers", maskOf(a, b, c), maskOf(2, 1, 1, 1))
			}
		}
	}
}

func TestCoverAnswersNewMemory(t *testing.T) {
	room := append(fineRing(0, 0, 30, 4, 48, 40, 3, 44).Points, pointsFor(77, 77, math.MaxInt, math.MinInt)...)
	before := slices.Clone(room)
	// Lines that lie in one another's memory, with others behind them.
	lines := []impl.Line{{Points: room[:4], Closed: true}, {Points: room[1:4]}, {Points: room[:1]}, {}, {Points: room}}
	l := lines[:4]
	want := coverAsTold(l, 3, 3, false)
	checkCover(t, l, false, want)
	for range 3 {
		got, ok := impl.CoverOf(l, 3, 3, false)
		if !ok || !sameMask(got, want) {
			t.Fatal(got, ok)
		}
		fill(got.Cover, -7)
		clear(got.Cover)
		checkWinding(t, l, 20, 20, windingAsTold(l, 20, 20))
	}
	checkNoCover(t, "with what lies behind", lines, 3, 3)
	checkNoWinding(t, "with what lies behind", lines, 5, 5)
	same := []impl.Line{{Points: before[:4], Closed: true}, {Points: before[1:4]}, {Points: before[:1]}, {}, {Points: before}}
	if !slices.Equal(room, before) || !sameLines(lines, same) {
		t.Error("what is handed in is not as it was")
	}
	numbers := []int{1, 2, 3, 4, 99, -5}
	kept := slices.Clone(numbers)
	a, b := maskOf(2, 2, numbers[:4]...), maskOf(2, 2, 16, 16, 16, 16)
	a.Cover, b.Cover = numbers[:4], append(make([]int, 0, 9), b.Cover...)
	for range 3 {
		for _, pair := range [][2]impl.Mask{{a, b}, {b, a}} {
			got, ok := impl.MeetMasks(pair[0], pair[1])
			if !ok || !slices.Equal(got.Cover, kept[:4]) {
				t.Fatal(got, ok)
			}
			fill(got.Cover, -7)
			clear(got.Cover)
		}
		checkMask(t, a, true)
	}
	checkMet(t, a, a, maskOf(2, 2, 0, 0, 1, 1))
	if !slices.Equal(numbers, kept) || !slices.Equal(b.Cover, []int{16, 16, 16, 16}) {
		t.Error(numbers, b)
	}
}

func TestCoverForManyAtOnce(t *testing.T) {
	d := dice(116)
	l := someCovering(&d, impl.MaxSide, impl.MaxSide)
	for len(l) < 3 {
		l = append(l, someCovering(&d, impl.MaxSide, impl.MaxSide)...)
	}
	want := coverAsTold(l, impl.MaxSide, impl.MaxSide, false)
	var all sync.WaitGroup
	for range 20 {
		all.Add(1)
		go func() {
			defer all.Done()
			checkCover(t, l, false, want)
		}()
	}
	all.Wait()
}
