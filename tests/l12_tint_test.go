package tests

import (
	"math"
	"slices"
	"testing"

	"loop.example/g00137/impl"
)

var noPart = []int{-1, 257, -256, 512, 1 << 32, 1<<32 + 5, 1 << 62, math.MaxInt, math.MinInt, math.MinInt + 1}

var noTone = []int{-1, 256, -255, 511, 1 << 32, 1<<32 + 5, 1 << 62, math.MaxInt, math.MinInt, math.MinInt + 1}

var spreads = []int{impl.SpreadPad, impl.SpreadRepeat, impl.SpreadMirror}

func tint(r, g, b, a int) impl.Tint { return impl.Tint{R: r, G: g, B: b, A: a} }

// grayTint has one number for all of its colors.
func grayTint(x, a int) impl.Tint { return tint(x, x, x, a) }

func fourOf(t impl.Tint) [4]int { return [4]int{t.R, t.G, t.B, t.A} }

func tintFrom(n [4]int) impl.Tint { return tint(n[0], n[1], n[2], n[3]) }

// halfUp rounds to the nearest, of two as near to the greater.
func halfUp(x float64) int { return int(math.Floor(x + 0.5)) }

func isTint(t impl.Tint) bool {
	return t.A >= 0 && t.A < 256 && min(t.R, t.G, t.B) >= 0 && max(t.R, t.G, t.B) <= t.A
}

// noTints are wrong in one number each.
func noTints() []impl.Tint {
	var l []impl.Tint
	for _, n := range noTone {
		l = append(l, tint(0, 0, 0, n), tint(n, 0, 0, 255), tint(0, n, 0, 255), tint(0, 0, n, 255))
	}
	for _, a := range []int{0, 1, 100, 254} {
		l = append(l, tint(a+1, 0, 0, a), tint(0, a+1, 0, a), tint(0, 0, a+1, a), tint(a, a, 255, a))
	}
	return l
}

func someTint(d *dice) impl.Tint {
	a := oneOf(d, 0, 255, 1, 254, d.below(256), d.below(256), d.below(256))
	return tint(d.below(a+1), oneOf(d, 0, a, d.below(a+1)), d.below(a+1), a)
}

func tintAsTold(c impl.Color, part int) impl.Tint {
	a := halfUp(255 * float64(part) / 256)
	toned := func(n int) int { return halfUp(float64(n*a) / 255) }
	return tint(toned(c.R), toned(c.G), toned(c.B), a)
}

func thinAsTold(t impl.Tint, part int) impl.Tint {
	n := fourOf(t)
	for k, x := range n {
		n[k] = halfUp(float64(x*part) / 256)
	}
	return tintFrom(n)
}

func overAsTold(top, under impl.Tint) impl.Tint {
	n, below := fourOf(top), fourOf(under)
	for k := range n {
		n[k] += halfUp(float64(below[k]) * float64(255-top.A) / 255)
	}
	return tintFrom(n)
}

func TestConstantsOfPaint(t *testing.T) {
	if !slices.Equal(spreads, []int{1, 2, 3}) {
		t.Error(spreads)
	}
}

func checkTint(t *testing.T, x impl.Tint, want bool) {
	t.Helper()
	if got := impl.GoodTint(x); got != want {
		t.Errorf("GoodTint %v: %v", x, got)
	}
}

func TestGoodTint(t *testing.T) {
	checkTint(t, impl.Tint{}, true)
	for a := -2; a <= 258; a++ {
		good := a >= 0 && a <= 255
		for x := -2; x <= 258; x++ {
			within := good && x >= 0 && x <= a
			checkTint(t, tint(x, 0, 0, a), within)
			checkTint(t, tint(0, x, 0, a), within)
			checkTint(t, tint(0, 0, x, a), within)
			checkTint(t, grayTint(x, a), within)
			checkTint(t, tint(x, a, a, a), within)
			checkTint(t, tint(a, x, a, a), within)
			checkTint(t, tint(a, a, x, a), within)
		}
	}
	for _, x := range noTints() {
		checkTint(t, x, false)
	}
	for _, n := range noTone {
		checkTint(t, grayTint(n, n), false)
		checkTint(t, grayTint(0, n), false)
		checkTint(t, grayTint(n, 0), false)
	}
}

func checkTintOf(t *testing.T, c impl.Color, part int, want impl.Tint) {
	t.Helper()
	if got, ok := impl.TintOf(c, part); got != want || !ok {
		t.Errorf("TintOf %v %d: %v, %v; not %v", c, part, got, ok, want)
	}
}

func checkNoTintOf(t *testing.T, c impl.Color, part int) {
	t.Helper()
	if got, ok := impl.TintOf(c, part); got != (impl.Tint{}) || ok {
		t.Errorf("TintOf %v %d: %v, %v", c, part, got, ok)
	}
}

func TestTintOf(t *testing.T) {
	checkTintOf(t, impl.Color{}, 0, impl.Tint{})
	checkTintOf(t, impl.Color{R: 255, G: 7, B: 200}, 0, impl.Tint{})
	checkTintOf(t, impl.Color{R: 255, G: 7, B: 200}, 256, tint(255, 7, 200, 255))
	checkTintOf(t, impl.Color{R: 255, G: 165}, 128, tint(128, 83, 0, 128))
	// One above, at, and one below where A steps.
	checkTintOf(t, impl.Color{}, 127, tint(0, 0, 0, 127))
	checkTintOf(t, impl.Color{}, 128, tint(0, 0, 0, 128))
	checkTintOf(t, impl.Color{}, 129, tint(0, 0, 0, 128))
	// Likewise the colors, of A 1 and of A 255.
	checkTintOf(t, impl.Color{R: 127, G: 128, B: 129}, 1, tint(0, 1, 1, 1))
	checkTintOf(t, impl.Color{R: 255, G: 254, B: 1}, 1, tint(1, 1, 0, 1))
	checkTintOf(t, impl.Color{R: 1, G: 254, B: 0}, 255, tint(1, 253, 0, 254))
	for part := 0; part <= 256; part++ {
		for x := 0; x <= 255; x++ {
			c := impl.Color{R: x, G: 255 - x, B: (7*x + part) % 256}
			checkTintOf(t, c, part, tintAsTold(c, part))
		}
		a := halfUp(255 * float64(part) / 256)
		checkTintOf(t, impl.Color{R: 255, G: 255, B: 255}, part, grayTint(a, a))
	}
}

func TestTintOfIsATint(t *testing.T) {
	for part := 0; part <= 256; part++ {
		for x := 0; x <= 255; x++ {
			for y := 0; y <= 255; y += 17 {
				got, ok := impl.TintOf(impl.Color{R: x, G: y, B: 255}, part)
				if !ok || !isTint(got) || !impl.GoodTint(got) {
					t.Fatal(x, y, part, got, ok)
				}
			}
		}
	}
}

func TestTintOfWrongColors(t *testing.T) {
	good := impl.Color{R: 1, G: 2, B: 3}
	for _, part := range noPart {
		checkNoTintOf(t, good, part)
		checkNoTintOf(t, impl.Color{}, part)
	}
	for _, n := range noTone {
		for _, part := range append([]int{0, 1, 128, 256}, noPart...) {
			checkNoTintOf(t, impl.Color{R: n}, part)
			checkNoTintOf(t, impl.Color{G: n}, part)
			checkNoTintOf(t, impl.Color{B: n}, part)
			checkNoTintOf(t, impl.Color{R: 255, G: 255, B: n}, part)
			checkNoTintOf(t, impl.Color{R: n, G: n, B: n}, part)
		}
	}
}

func checkThin(t *testing.T, x impl.Tint, part int, want impl.Tint) {
	t.Helper()
	if got, ok := impl.ThinTint(x, part); got != want || !ok {
		t.Errorf("ThinTint %v %d: %v, %v; not %v", x, part, got, ok, want)
	}
}

func checkNotThin(t *testing.T, x impl.Tint, part int) {
	t.Helper()
	if got, ok := impl.ThinTint(x, part); got != (impl.Tint{}) || ok {
		t.Errorf("ThinTint %v %d: %v, %v", x, part, got, ok)
	}
}

func TestThinTint(t *testing.T) {
	checkThin(t, tint(10, 20, 30, 40), 128, tint(5, 10, 15, 20))
	checkThin(t, tint(255, 128, 1, 255), 64, tint(64, 32, 0, 64))
	checkThin(t, tint(0, 1, 2, 3), 127, tint(0, 0, 1, 1))
	checkThin(t, tint(0, 1, 2, 3), 128, tint(0, 1, 1, 2))
	checkThin(t, tint(0, 1, 2, 3), 129, tint(0, 1, 1, 2))
	for part := 0; part <= 256; part++ {
		for a := 0; a <= 255; a++ {
			for _, x := range []impl.Tint{tint(0, a, a/2, a), tint(a-a/3, 0, a, a), tint(min(a, part), a*part/256, min(a, 1), a)} {
				want := thinAsTold(x, part)
				checkThin(t, x, part, want)
				if !impl.GoodTint(want) {
					t.Fatal("no tint", x, part)
				}
			}
		}
	}
	for a := 0; a <= 255; a++ {
		checkThin(t, tint(a, 0, a/2, a), 256, tint(a, 0, a/2, a))
		checkThin(t, tint(a, 0, a/2, a), 0, impl.Tint{})
		checkThin(t, impl.Tint{}, a, impl.Tint{})
	}
}

func TestThinTintOfWrongOnes(t *testing.T) {
	for _, part := range noPart {
		for _, x := range []impl.Tint{{}, tint(1, 2, 3, 4), grayTint(255, 255)} {
			checkNotThin(t, x, part)
		}
	}
	for _, x := range noTints() {
		for _, part := range append([]int{0, 1, 128, 256}, noPart...) {
			checkNotThin(t, x, part)
		}
	}
}

func checkOver(t *testing.T, top, under, want impl.Tint) {
	t.Helper()
	if got, ok := impl.OverTint(top, under); got != want || !ok {
		t.Errorf("OverTint %v %v: %v, %v; not %v", top, under, got, ok, want)
	}
}

func checkNotOver(t *testing.T, top, under impl.Tint) {
	t.Helper()
	if got, ok := impl.OverTint(top, under); got != (impl.Tint{}) || ok {
		t.Errorf("OverTint %v %v: %v, %v", top, under, got, ok)
	}
}

func TestOverTint(t *testing.T) {
	checkOver(t, tint(128, 0, 0, 128), tint(0, 0, 255, 255), tint(128, 0, 127, 255))
	checkOver(t, tint(10, 20, 30, 40), tint(50, 60, 70, 80), tint(52, 71, 89, 107))
	checkOver(t, tint(0, 0, 0, 127), tint(1, 2, 3, 4), tint(1, 1, 2, 129))
	checkOver(t, tint(0, 0, 0, 128), tint(1, 2, 3, 4), tint(0, 1, 1, 130))
	// Where one of them is neither full nor empty, which one lies above is seen.
	checkOver(t, tint(100, 0, 0, 100), tint(0, 200, 0, 200), tint(100, 122, 0, 222))
	checkOver(t, tint(0, 200, 0, 200), tint(100, 0, 0, 100), tint(22, 200, 0, 222))
	for a := 0; a <= 255; a++ {
		for b := 0; b <= 255; b++ {
			for _, pair := range [][2]impl.Tint{{tint(0, a, a/2, a), tint(b, 0, b/2, b)}, {tint(a, 0, a, a), tint(b, b, 0, b)}, {tint(a/3, min(a, 1), a-a/5, a), tint(b/7, b-b/3, min(b, 1), b)}} {
				want := overAsTold(pair[0], pair[1])
				checkOver(t, pair[0], pair[1], want)
				if !isTint(want) || !impl.GoodTint(want) {
					t.Fatal("no tint", pair)
				}
			}
		}
	}
}

func TestFullTintsHideAndEmptyOnesDoNot(t *testing.T) {
	d := dice(121)
	for range 5000 {
		under, full := someTint(&d), tint(d.below(256), d.below(256), d.below(256), 255)
		checkOver(t, full, under, full)
		checkOver(t, impl.Tint{}, under, under)
		checkOver(t, under, impl.Tint{}, under)
	}
	for a := 0; a <= 255; a++ {
		for x := 0; x <= a; x++ {
			under := tint(x, a-x, x/2, a)
			checkOver(t, impl.Tint{}, under, under)
			checkOver(t, tint(a, x, 0, 255), under, tint(a, x, 0, 255))
			checkOver(t, under, impl.Tint{}, under)
		}
	}
}

func TestOverTintOfAnyTints(t *testing.T) {
	d := dice(122)
	for range 50000 {
		top, under := someTint(&d), someTint(&d)
		want := overAsTold(top, under)
		checkOver(t, top, under, want)
		if !impl.GoodTint(want) {
			t.Fatal("no tint", top, under)
		}
	}
}

func TestOverTintOfWrongOnes(t *testing.T) {
	for _, wrong := range noTints() {
		for _, x := range []impl.Tint{{}, tint(1, 2, 3, 4), grayTint(255, 255), wrong} {
			checkNotOver(t, wrong, x)
			checkNotOver(t, x, wrong)
		}
	}
}

func stopAt(place int, t impl.Tint) impl.Stop { return impl.Stop{At: place, Tint: t} }

// stopsAt answers a stop for each place, each with a tint of its own.
func stopsAt(places ...int) []impl.Stop {
	var l []impl.Stop
	for k, place := range places {
		l = append(l, stopAt(place, tint(10*k, 100-k, k, 200+k)))
	}
	return l
}

func checkStops(t *testing.T, l []impl.Stop, want bool) {
	t.Helper()
	if got := impl.StopsGood(l); got != want {
		t.Errorf("StopsGood %v: %v", l, got)
	}
	for _, spread := range spreads {
		for _, place := range []int{0, one / 2, one} {
			if got, ok := impl.RunAt(l, place, spread); ok != want || !ok && got != (impl.Tint{}) {
				t.Errorf("RunAt %v %d %d: %v, %v", l, place, spread, got, ok)
			}
		}
	}
}

func TestStopsGoodByTheirNumber(t *testing.T) {
	checkStops(t, nil, false)
	checkStops(t, []impl.Stop{}, false)
	for count := 1; count <= 20; count++ {
		places := make([]int, count)
		checkStops(t, stopsAt(places...), count <= 8)
		for k := range places {
			places[k] = k * one / count
		}
		checkStops(t, stopsAt(places...), count <= 8)
	}
	checkStops(t, slices.Repeat(stopsAt(5), 200000), false)
}

func TestStopsGoodByTheirPlaces(t *testing.T) {
	checkStops(t, []impl.Stop{{}}, true)
	for _, places := range [][]int{{0}, {one}, {1}, {one - 1}, {0, one}, {0, 0}, {one, one}, {0, 0, one, one}, {5, 5, 5}, {4, 5, 5, 6}, {0, 1, 2, 3, 4, 5, 6, 7}, {one - 1, one}} {
		checkStops(t, stopsAt(places...), true)
	}
	for _, places := range [][]int{{1, 0}, {one, one - 1}, {one, 0}, {0, 2, 1}, {0, 0, 5, 4, 9}, {3, 2, 3}, {3, 3, 3, 3, 3, 3, 3, 2}, {0, 10, 0, 20}} {
		checkStops(t, stopsAt(places...), false)
	}
	for _, wrong := range []int{-1, one + 1, -one, 2 * one, 1 << 32, 1<<32 + 5, impl.MaxFixed, math.MaxInt, math.MinInt, math.MinInt + 1} {
		checkStops(t, stopsAt(wrong), false)
		checkStops(t, stopsAt(wrong, wrong), false)
		for count := 1; count <= 8; count++ {
			for k := range count {
				l := stopsAt(slices.Repeat([]int{one / 2}, count)...)
				l[k].At = wrong
				checkStops(t, l, false)
			}
		}
	}
}

func TestStopsGoodByTheirTints(t *testing.T) {
	for _, wrong := range noTints() {
		checkStops(t, []impl.Stop{stopAt(0, wrong)}, false)
		for k := range 8 {
			l := stopsAt(0, 1, 1, 9, 100, 1000, one-1, one)
			checkStops(t, l, true)
			l[k].Tint = wrong
			checkStops(t, l, false)
		}
	}
	for _, good := range []impl.Tint{{}, grayTint(255, 255), tint(0, 1, 0, 1), tint(0, 0, 0, 255)} {
		checkStops(t, []impl.Stop{stopAt(0, good), stopAt(7, good)}, true)
	}
}
