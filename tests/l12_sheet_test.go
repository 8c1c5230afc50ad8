package tests

import (
	"bytes"
	"math"
	"slices"
	"strconv"
	"sync"
	"testing"

	"loop.example/g00137/impl"
)

func sheetOf(wide, high int, pixels ...impl.Tint) impl.Sheet {
	return impl.Sheet{Wide: wide, High: high, Pixels: pixels}
}

// plainSheet has one tint for all pixels.
func plainSheet(wide, high int, t impl.Tint) impl.Sheet {
	return sheetOf(wide, high, slices.Repeat([]impl.Tint{t}, wide*high)...)
}

func sameSheet(a, b impl.Sheet) bool {
	return a.Wide == b.Wide && a.High == b.High && slices.Equal(a.Pixels, b.Pixels)
}

func somePainted(d *dice, wide, high int) impl.Sheet {
	s := sheetOf(wide, high)
	for range wide * high {
		s.Pixels = append(s.Pixels, someTint(d))
	}
	return s
}

// sidesBeyond have products that are 0, or few, only because they go beyond an int or are of two sides below 0.
var sidesBeyond = [][2]int{{1 << 32, 1 << 32}, {1 << 62, 4}, {math.MinInt, 2}, {math.MinInt, math.MinInt}, {-1, -1}, {-2, -2}, {-36, -36}, {1<<32 + 1, 1<<32 - 1}, {math.MaxInt, math.MaxInt}, {math.MinInt, -1}}

// noSheets are wrong in one way each.
func noSheets() map[string]impl.Sheet {
	x := tint(1, 2, 3, 4)
	all := map[string]impl.Sheet{
		"nothing":         {},
		"no pixels":       sheetOf(2, 2),
		"one too few":     sheetOf(2, 2, x, x, x),
		"one too many":    sheetOf(2, 2, x, x, x, x, x),
		"sides below 0":   sheetOf(-2, -2, x, x, x, x),
		"a flat side":     sheetOf(4, 0, x, x, x, x),
		"the least sides": sheetOf(math.MinInt, math.MinInt),
		"a long side":     plainSheet(37, 1, x),
		"a long way down": plainSheet(1, 37, x),
	}
	for k, wrong := range noTints() {
		s := plainSheet(2, 2, x)
		s.Pixels[k%4] = wrong
		all["no tint, "+strconv.Itoa(k)] = s
	}
	return all
}

func checkNewSheet(t *testing.T, wide, high int, want bool) {
	t.Helper()
	empty := impl.Sheet{}
	if want {
		empty = plainSheet(wide, high, impl.Tint{})
	}
	if got, ok := impl.NewSheet(wide, high); !sameSheet(got, empty) || ok != want || impl.GoodSheet(got) != want {
		t.Errorf("NewSheet %d %d: %v, %v", wide, high, got, ok)
	}
}

func TestNewSheet(t *testing.T) {
	for wide := 1; wide <= impl.MaxSide; wide++ {
		for high := 1; high <= impl.MaxSide; high++ {
			checkNewSheet(t, wide, high, true)
		}
		for _, wrong := range badSides {
			checkNewSheet(t, wide, wrong, false)
			checkNewSheet(t, wrong, wide, false)
		}
	}
	for _, a := range badSides {
		for _, b := range badSides {
			checkNewSheet(t, a, b, false)
		}
	}
	for _, sides := range sidesBeyond {
		checkNewSheet(t, sides[0], sides[1], false)
		checkNewSheet(t, sides[1], sides[0], false)
	}
}

// checkPixels asks GoodSheet, and all functions that take a sheet, whether it is one.
func checkPixels(t *testing.T, s impl.Sheet, want bool) {
	t.Helper()
	if got := impl.GoodSheet(s); got != want {
		t.Errorf("%d %d with %d pixels: GoodSheet %v", s.Wide, s.High, len(s.Pixels), got)
	}
	if got, ok := impl.SheetBytes(s); ok != want || !ok && len(got) > 0 || ok && len(got) != 4*len(s.Pixels) {
		t.Errorf("%d %d with %d pixels: SheetBytes %d bytes, %v", s.Wide, s.High, len(s.Pixels), len(got), ok)
	}
	if got, ok := impl.LaySheet(s, s, 0); ok != want || !ok && !sameSheet(got, impl.Sheet{}) || ok && !sameSheet(got, s) {
		t.Errorf("%d %d with %d pixels: LaySheet %v, %v", s.Wide, s.High, len(s.Pixels), got, ok)
	}
}

func TestGoodSheet(t *testing.T) {
	for _, wide := range []int{1, 2, 35, impl.MaxSide} {
		for _, high := range []int{1, 3, impl.MaxSide} {
			for _, x := range []impl.Tint{{}, tint(1, 2, 3, 4), grayTint(255, 255)} {
				few, many := plainSheet(wide, high, x), plainSheet(wide, high, x)
				checkPixels(t, few, true)
				few.Pixels, many.Pixels = few.Pixels[1:], append(many.Pixels, x)
				checkPixels(t, few, false)
				checkPixels(t, many, false)
				checkPixels(t, sheetOf(wide, high), false)
			}
			for _, wrong := range noTints() {
				for _, k := range []int{0, wide*high - 1, wide * high / 2} {
					s := plainSheet(wide, high, tint(5, 6, 7, 8))
					s.Pixels[k] = wrong
					checkPixels(t, s, false)
				}
			}
		}
	}
}

func TestGoodSheetOfOtherSides(t *testing.T) {
	for _, wrong := range badSides {
		for _, side := range []int{1, 2, 4, impl.MaxSide} {
			// As many pixels as the product tells, where so many can be, going beyond an int or not.
			for _, count := range []int{0, 1, 4, side, wrong * side} {
				if 0 <= count && count <= 10000 {
					checkPixels(t, sheetOf(wrong, side, make([]impl.Tint, count)...), false)
					checkPixels(t, sheetOf(side, wrong, make([]impl.Tint, count)...), false)
				}
			}
		}
	}
	for _, sides := range sidesBeyond {
		for _, count := range []int{0, 1, 2, 4, 36 * 36} {
			checkPixels(t, sheetOf(sides[0], sides[1], make([]impl.Tint, count)...), false)
			checkPixels(t, sheetOf(sides[1], sides[0], make([]impl.Tint, count)...), false)
		}
	}
	for name, wrong := range noSheets() {
		if impl.GoodSheet(wrong) {
			t.Error(name)
		}
		checkPixels(t, wrong, false)
	}
	checkPixels(t, sheetOf(2, 2, make([]impl.Tint, 1000000)...), false)
}

func checkPainted(t *testing.T, s impl.Sheet, m impl.Mask, x impl.Tint, want impl.Sheet) {
	t.Helper()
	got, ok := impl.PaintMask(s, m, x)
	if !sameSheet(got, want) || !ok || !impl.GoodSheet(got) {
		t.Errorf("PaintMask %v %v %v: %v, %v; not %v", s, m, x, got, ok, want)
	}
}

func checkNotPainted(t *testing.T, name string, s impl.Sheet, m impl.Mask, x impl.Tint) {
	t.Helper()
	if got, ok := impl.PaintMask(s, m, x); !sameSheet(got, impl.Sheet{}) || ok {
		t.Errorf("%s: PaintMask: %v, %v", name, got, ok)
	}
}

func TestPaintMaskOfEachNumber(t *testing.T) {
	d := dice(124)
	for n := 0; n <= 16; n++ {
		for range 500 {
			under, x := someTint(&d), someTint(&d)
			want := overAsTold(thinAsTold(x, 16*n), under)
			checkPainted(t, sheetOf(1, 1, under), maskOf(1, 1, n), x, sheetOf(1, 1, want))
		}
		red, white := tint(255, 0, 0, 255), grayTint(255, 255)
		part := halfUp(255 * float64(n) / 16)
		checkPainted(t, sheetOf(1, 1, white), maskOf(1, 1, n), red, sheetOf(1, 1, tint(255, 255-part, 255-part, 255)))
		checkPainted(t, sheetOf(1, 1, impl.Tint{}), maskOf(1, 1, n), red, sheetOf(1, 1, tint(part, 0, 0, part)))
	}
	// Each pixel has its own number, row by row.
	checkPainted(t, plainSheet(2, 3, impl.Tint{}), maskOf(2, 3, 0, 1, 2, 4, 8, 16), tint(32, 16, 0, 160),
		sheetOf(2, 3, impl.Tint{}, tint(2, 1, 0, 10), tint(4, 2, 0, 20), tint(8, 4, 0, 40), tint(16, 8, 0, 80), tint(32, 16, 0, 160)))
	// Thinned first, then over: laid over and then thinned the lower one would be thinner, too.
	checkPainted(t, sheetOf(1, 1, tint(0, 100, 0, 100)), maskOf(1, 1, 8), tint(200, 0, 0, 200), sheetOf(1, 1, tint(100, 61, 0, 161)))
}

func TestPaintMaskHidesOrDoesNot(t *testing.T) {
	d := dice(125)
	for range 200 {
		wide, high := 1+d.below(impl.MaxSide), 1+d.below(impl.MaxSide)
		s := somePainted(&d, wide, high)
		full := tint(d.below(256), d.below(256), d.below(256), 255)
		checkPainted(t, s, evenMask(wide, high, 16), full, plainSheet(wide, high, full))
		checkPainted(t, s, evenMask(wide, high, 0), full, s)
		checkPainted(t, s, someMask(&d, wide, high), impl.Tint{}, s)
		m, want := evenMask(wide, high, 0), sheetOf(wide, high, slices.Clone(s.Pixels)...)
		for k := range m.Cover {
			if d.below(2) == 0 {
				m.Cover[k], want.Pixels[k] = 16, full
			}
		}
		checkPainted(t, s, m, full, want)
	}
}

func TestPaintMaskOfAnySheets(t *testing.T) {
	d := dice(126)
	for range 400 {
		wide, high := oneOf(&d, 1, impl.MaxSide, 1+d.below(impl.MaxSide)), oneOf(&d, 1, impl.MaxSide, 1+d.below(impl.MaxSide))
		s, m, x := somePainted(&d, wide, high), someMask(&d, wide, high), someTint(&d)
		want := sheetOf(wide, high)
		for k, under := range s.Pixels {
			want.Pixels = append(want.Pixels, overAsTold(thinAsTold(x, 16*m.Cover[k]), under))
		}
		checkPainted(t, s, m, x, want)
	}
}

func TestPaintMaskOfWrongOnes(t *testing.T) {
	s, m, x := plainSheet(2, 2, tint(9, 8, 7, 10)), evenMask(2, 2, 5), tint(1, 2, 3, 4)
	for _, wrong := range noTints() {
		checkNotPainted(t, "no tint", s, m, wrong)
		checkNotPainted(t, "no tint", s, evenMask(2, 2, 0), wrong)
	}
	for name, wrong := range noSheets() {
		checkNotPainted(t, name, wrong, m, x)
		checkNotPainted(t, name, wrong, maskOf(wrong.Wide, wrong.High, make([]int, len(wrong.Pixels))...), x)
	}
	for _, n := range []int{-1, 17, -16, 256, 1 << 32, 1<<32 + 3, math.MinInt, math.MaxInt} {
		for k := range 4 {
			wrong := evenMask(2, 2, 5)
			wrong.Cover[k] = n
			checkNotPainted(t, "no number of a mask", s, wrong, x)
			checkNotPainted(t, "no number of a mask", s, wrong, impl.Tint{})
		}
	}
	for name, wrong := range map[string]impl.Mask{
		"nothing":         {},
		"one too few":     maskOf(2, 2, 1, 2, 3),
		"one too many":    maskOf(2, 2, 1, 2, 3, 4, 5),
		"sides below 0":   maskOf(-2, -2, 1, 2, 3, 4),
		"a flat side":     maskOf(4, 0, 1, 2, 3, 4),
		"the least sides": maskOf(math.MinInt, math.MinInt),
		"far too many":    maskOf(2, 2, make([]int, 1000000)...),
	} {
		checkNotPainted(t, name, s, wrong, x)
	}
	for _, sides := range unlikeSides {
		checkNotPainted(t, "unlike sides", plainSheet(sides[0], sides[1], x), evenMask(sides[2], sides[3], 5), x)
		checkNotPainted(t, "unlike sides", plainSheet(sides[2], sides[3], x), evenMask(sides[0], sides[1], 5), x)
	}
}

// unlikeSides have, some of them, the same product.
var unlikeSides = [][4]int{{2, 3, 3, 2}, {1, 1, 1, 2}, {1, 1, 2, 1}, {6, 1, 2, 3}, {36, 1, 1, 36}, {36, 36, 36, 35}, {36, 36, 35, 36}, {4, 9, 6, 6}}

func checkLaid(t *testing.T, under, top impl.Sheet, part int, want impl.Sheet) {
	t.Helper()
	got, ok := impl.LaySheet(under, top, part)
	if !sameSheet(got, want) || !ok || !impl.GoodSheet(got) {
		t.Errorf("LaySheet %v %v %d: %v, %v; not %v", under, top, part, got, ok, want)
	}
}

func checkNotLaid(t *testing.T, name string, under, top impl.Sheet, part int) {
	t.Helper()
	if got, ok := impl.LaySheet(under, top, part); !sameSheet(got, impl.Sheet{}) || ok {
		t.Errorf("%s: LaySheet, part %d: %v, %v", name, part, got, ok)
	}
}

func TestLaySheetByEachPart(t *testing.T) {
	d := dice(127)
	for part := 0; part <= 256; part++ {
		under, top := somePainted(&d, 5, 7), somePainted(&d, 5, 7)
		want := sheetOf(5, 7)
		for k, x := range top.Pixels {
			want.Pixels = append(want.Pixels, overAsTold(thinAsTold(x, part), under.Pixels[k]))
		}
		checkLaid(t, under, top, part, want)
		checkLaid(t, under, plainSheet(5, 7, impl.Tint{}), part, under)
		checkLaid(t, under, top, 0, under)
		a := halfUp(255 * float64(part) / 256)
		checkLaid(t, sheetOf(1, 1, tint(0, 0, 255, 255)), sheetOf(1, 1, tint(255, 0, 0, 255)), part, sheetOf(1, 1, tint(a, 0, 255-a, 255)))
	}
	checkLaid(t, sheetOf(1, 1, tint(0, 100, 0, 100)), sheetOf(1, 1, tint(200, 0, 0, 200)), 128, sheetOf(1, 1, tint(100, 61, 0, 161)))
	checkLaid(t, sheetOf(2, 1, tint(0, 0, 9, 9), tint(8, 0, 0, 8)), sheetOf(2, 1, tint(1, 0, 0, 255), tint(0, 0, 0, 0)), 256, sheetOf(2, 1, tint(1, 0, 0, 255), tint(8, 0, 0, 8)))
}

func TestLaySheetHidesOrDoesNot(t *testing.T) {
	d := dice(128)
	for range 200 {
		wide, high := oneOf(&d, 1, impl.MaxSide, 1+d.below(impl.MaxSide)), oneOf(&d, 1, impl.MaxSide, 1+d.below(impl.MaxSide))
		under, top := somePainted(&d, wide, high), somePainted(&d, wide, high)
		empty, ok := impl.NewSheet(wide, high)
		if !ok {
			t.Fatal(wide, high)
		}
		checkLaid(t, under, empty, d.below(257), under)
		checkLaid(t, empty, top, 256, top)
		checkLaid(t, under, top, 0, under)
		full := sheetOf(wide, high)
		for range wide * high {
			full.Pixels = append(full.Pixels, tint(d.below(256), d.below(256), d.below(256), 255))
		}
		checkLaid(t, under, full, 256, full)
		want := sheetOf(wide, high)
		for k, x := range top.Pixels {
			want.Pixels = append(want.Pixels, overAsTold(x, under.Pixels[k]))
		}
		checkLaid(t, under, top, 256, want)
	}
}

func TestLaySheetOfWrongOnes(t *testing.T) {
	good := plainSheet(2, 2, tint(9, 8, 7, 10))
	for _, part := range noPart {
		checkNotLaid(t, "no part", good, good, part)
		checkNotLaid(t, "no part", good, plainSheet(2, 2, impl.Tint{}), part)
	}
	for name, wrong := range noSheets() {
		for _, part := range []int{0, 1, 256} {
			checkNotLaid(t, name, good, wrong, part)
			checkNotLaid(t, name, wrong, good, part)
			checkNotLaid(t, name, wrong, wrong, part)
		}
	}
	for _, sides := range unlikeSides {
		for _, part := range []int{0, 100, 256} {
			a, b := plainSheet(sides[0], sides[1], tint(1, 2, 3, 4)), plainSheet(sides[2], sides[3], tint(1, 2, 3, 4))
			checkNotLaid(t, "unlike sides", a, b, part)
			checkNotLaid(t, "unlike sides", b, a, part)
		}
	}
}

func checkBytes(t *testing.T, s impl.Sheet, want ...byte) {
	t.Helper()
	if got, ok := impl.SheetBytes(s); !bytes.Equal(got, want) || !ok {
		t.Errorf("SheetBytes %v: %v, %v; not %v", s, got, ok, want)
	}
}

func TestSheetBytes(t *testing.T) {
	checkBytes(t, sheetOf(1, 1, impl.Tint{}), 0, 0, 0, 0)
	checkBytes(t, sheetOf(1, 1, tint(0, 1, 1, 1)), 0, 255, 255, 1)
	checkBytes(t, sheetOf(1, 1, tint(0, 7, 255, 255)), 0, 7, 255, 255)
	checkBytes(t, sheetOf(1, 1, tint(0, 1, 2, 2)), 0, 128, 255, 2)
	checkBytes(t, sheetOf(1, 1, tint(1, 2, 3, 3)), 85, 170, 255, 3)
	checkBytes(t, sheetOf(1, 1, tint(1, 2, 3, 4)), 64, 128, 191, 4)
	checkBytes(t, sheetOf(1, 1, tint(64, 128, 32, 128)), 128, 255, 64, 128)
	checkBytes(t, sheetOf(2, 2, tint(0, 0, 0, 255), tint(255, 0, 0, 255), tint(0, 0, 0, 0), tint(0, 0, 9, 9)),
		0, 0, 0, 255, 255, 0, 0, 255, 0, 0, 0, 0, 0, 0, 255, 9)
	for _, sides := range [][2]int{{1, 1}, {2, 3}, {impl.MaxSide, 1}, {1, impl.MaxSide}, {impl.MaxSide, impl.MaxSide}} {
		s, ok := impl.NewSheet(sides[0], sides[1])
		if !ok {
			t.Fatal(sides)
		}
		checkBytes(t, s, make([]byte, 4*sides[0]*sides[1])...)
	}
}

func TestSheetBytesOfEachTint(t *testing.T) {
	for a := 0; a <= 255; a++ {
		s, want := sheetOf(a/8+1, 8), []byte(nil)
		for k := range s.Wide * s.High {
			x := min(k, a)
			s.Pixels = append(s.Pixels, tint(x, a-x, x/2, a))
			plain := func(n int) byte {
				if a == 0 {
					return 0
				}
				return byte(halfUp(float64(255*n) / float64(a)))
			}
			want = append(want, plain(x), plain(a-x), plain(x/2), byte(a))
		}
		checkBytes(t, s, want...)
		if a == 0 {
			continue
		}
		checkBytes(t, sheetOf(1, 1, tint(0, a, 0, a)), 0, 255, 0, byte(a))
		checkBytes(t, sheetOf(1, 1, tint(a, 0, a, a)), 255, 0, 255, byte(a))
	}
}

// A sheet's bytes are a picture; colors that were painted in full are there as they were.
func TestSheetBytesAsAPicture(t *testing.T) {
	d := dice(129)
	for range 40 {
		wide, high := 1+d.below(impl.MaxSide), 1+d.below(impl.MaxSide)
		s, want := sheetOf(wide, high), []byte(nil)
		for range wide * high {
			c := impl.Color{R: d.below(256), G: d.below(256), B: d.below(256)}
			x, ok := impl.TintOf(c, 256)
			if !ok {
				t.Fatal(c)
			}
			s.Pixels = append(s.Pixels, x)
			want = append(want, byte(c.R), byte(c.G), byte(c.B), 255)
		}
		checkBytes(t, s, want...)
		b, _ := impl.SheetBytes(s)
		file, ok := impl.EncodePng(wide, high, b)
		if !ok {
			t.Fatal(wide, high)
		}
		if w, h, pixels, code := impl.DecodePng(file); w != wide || h != high || !bytes.Equal(pixels, want) || code != impl.PngOk {
			t.Error(w, h, code)
		}
	}
}

func TestPaintAtAnyArguments(t *testing.T) {
	extremes := []int{math.MinInt, math.MinInt + 1, math.MaxInt, -1, 0, 1, 2, 16, 36, 37, 255, 256, 257, one, one + 1, 1 << 32, impl.MaxFixed, -impl.MaxFixed, impl.MaxFixed + 1}
	for _, a := range extremes {
		for _, b := range extremes {
			checkNewSheet(t, a, b, min(a, b) > 0 && max(a, b) <= impl.MaxSide)
			for _, c := range extremes {
				checkAnyTint(t, a, b, c)
				checkAnyRun(t, a, b, c)
				checkAnySheet(t, a, b, c)
			}
		}
	}
}

func checkAnyTint(t *testing.T, a, b, c int) {
	t.Helper()
	x, part := tint(b, 0, c, a), c >= 0 && c <= 256
	checkTint(t, x, isTint(x))
	if color := (impl.Color{R: a, G: b, B: a}); part && min(a, b) >= 0 && max(a, b) <= 255 {
		checkTintOf(t, color, c, tintAsTold(color, c))
	} else {
		checkNoTintOf(t, color, c)
	}
	if isTint(x) {
		checkOver(t, x, x, overAsTold(x, x))
	} else {
		checkNotOver(t, x, impl.Tint{})
		checkNotOver(t, impl.Tint{}, x)
	}
	if part && isTint(x) {
		checkThin(t, x, c, thinAsTold(x, c))
	} else {
		checkNotThin(t, x, c)
	}
}

func checkAnyRun(t *testing.T, a, b, c int) {
	t.Helper()
	l := []impl.Stop{stopAt(a, tint(0, 9, 0, 255)), stopAt(b, tint(0, 0, 255, 255))}
	good := a >= 0 && a <= b && b <= one
	checkStops(t, l, good)
	for _, spread := range []int{impl.SpreadPad, impl.SpreadRepeat, impl.SpreadMirror, a, b, c} {
		if good && max(c, -c) <= impl.MaxFixed && c != math.MinInt && spread >= 1 && spread <= 3 {
			checkRun(t, l, c, spread, runAsTold(l, c, spread))
		} else {
			checkNoRun(t, l, c, spread)
		}
	}
}

func checkAnySheet(t *testing.T, a, b, c int) {
	t.Helper()
	unit, x, single := sheetOf(1, 1, tint(4, 5, 6, 7)), tint(0, c, 0, c), a == 1 && b == 1
	s := sheetOf(a, b, x)
	checkPixels(t, s, single && c >= 0 && c <= 255)
	if single && isTint(x) {
		checkLaid(t, unit, s, 256, sheetOf(1, 1, overAsTold(x, unit.Pixels[0])))
		checkPainted(t, s, maskOf(1, 1, 16), x, sheetOf(1, 1, overAsTold(x, x)))
	} else {
		checkNotLaid(t, "any sheet", unit, s, 256)
		checkNotLaid(t, "any sheet", s, unit, c)
		checkNotPainted(t, "any sheet", s, maskOf(a, b, 16), impl.Tint{})
	}
	if c >= 0 && c <= 256 {
		checkLaid(t, unit, unit, c, sheetOf(1, 1, overAsTold(thinAsTold(unit.Pixels[0], c), unit.Pixels[0])))
	} else {
		checkNotLaid(t, "any part", unit, unit, c)
	}
	if m, full := maskOf(a, b, c), tint(1, 2, 3, 255); single && c >= 0 && c <= 16 {
		checkPainted(t, unit, m, full, sheetOf(1, 1, overAsTold(thinAsTold(full, 16*c), unit.Pixels[0])))
	} else {
		checkNotPainted(t, "any mask", unit, m, full)
	}
}

func TestPaintOfNothing(t *testing.T) {
	var s impl.Sheet
	checkTint(t, impl.Tint{}, true)
	checkTintOf(t, impl.Color{}, 0, impl.Tint{})
	checkThin(t, impl.Tint{}, 0, impl.Tint{})
	checkOver(t, impl.Tint{}, impl.Tint{}, impl.Tint{})
	checkStops(t, nil, false)
	checkNoRun(t, nil, 0, 0)
	checkNewSheet(t, 0, 0, false)
	checkPixels(t, s, false)
	checkNotPainted(t, "nothing", s, impl.Mask{}, impl.Tint{})
	checkNotLaid(t, "nothing", s, s, 0)
}

// checkSheetsApart asks that each answer has memory of its own, whatever becomes of an earlier one.
func checkSheetsApart(t *testing.T, name string, call func() (impl.Sheet, bool)) {
	t.Helper()
	first, ok := call()
	kept := sheetOf(first.Wide, first.High, slices.Clone(first.Pixels)...)
	for range 2 {
		again, also := call()
		if !ok || !also || !sameSheet(again, kept) {
			t.Fatalf("%s answers otherwise another time: %v, not %v", name, again, kept)
		}
		for k := range first.Pixels {
			first.Pixels[k].A -= 7
		}
		fill(first.Pixels, tint(1, 1, 1, 77))
		if !sameSheet(again, kept) {
			t.Fatalf("%s answers memory of an earlier answer", name)
		}
		first = again
	}
}

func TestPaintAnswersNewMemory(t *testing.T) {
	d := dice(130)
	room := append(somePainted(&d, 3, 4).Pixels, tint(-1, 5, 5, 1), tint(math.MaxInt, 0, 0, math.MinInt), tint(9, 9, 9, 9))
	numbers := append(someMask(&d, 3, 4).Cover, -5, 99, math.MinInt)
	stops := append(stopsAt(0, 5, 5, one), stopAt(-1, tint(1, 1, 1, 0)), stopAt(math.MinInt, tint(2, 2, 2, 2)))
	oldRoom, oldNumbers, oldStops := slices.Clone(room), slices.Clone(numbers), slices.Clone(stops)
	// Sheets that lie in one another's memory, with other pixels behind them.
	s := impl.Sheet{Wide: 3, High: 4, Pixels: room[:12]}
	a, b := impl.Sheet{Wide: 2, High: 5, Pixels: room[:10]}, impl.Sheet{Wide: 2, High: 5, Pixels: room[1:11]}
	m := impl.Mask{Wide: 3, High: 4, Cover: numbers[:12]}
	for name, call := range map[string]func() (impl.Sheet, bool){
		"NewSheet":                func() (impl.Sheet, bool) { return impl.NewSheet(3, 4) },
		"PaintMask":               func() (impl.Sheet, bool) { return impl.PaintMask(s, m, tint(1, 2, 3, 200)) },
		"PaintMask with no tint":  func() (impl.Sheet, bool) { return impl.PaintMask(s, m, impl.Tint{}) },
		"LaySheet":                func() (impl.Sheet, bool) { return impl.LaySheet(a, b, 200) },
		"LaySheet of one":         func() (impl.Sheet, bool) { return impl.LaySheet(s, s, 256) },
		"LaySheet with no part":   func() (impl.Sheet, bool) { return impl.LaySheet(b, a, 0) },
		"LaySheet over a new one": func() (impl.Sheet, bool) { return impl.LaySheet(plainSheet(3, 4, impl.Tint{}), s, 256) },
	} {
		checkSheetsApart(t, name, call)
	}
	want, ok := impl.SheetBytes(s)
	for range 3 {
		got, also := impl.SheetBytes(s)
		if !ok || !also || !bytes.Equal(got, want) || len(got) != 48 {
			t.Fatal(got, want)
		}
		clear(got)
		fill(got, 7)
	}
	for _, spread := range spreads {
		checkRun(t, stops[:4], one/3, spread, runAsTold(oldStops[:4], one/3, spread))
	}
	checkStops(t, stops[:4], true)
	checkStops(t, stops, false)
	checkPixels(t, s, true)
	checkPixels(t, impl.Sheet{Wide: 3, High: 5, Pixels: room}, false)
	if !slices.Equal(room, oldRoom) || !slices.Equal(numbers, oldNumbers) || !slices.Equal(stops, oldStops) {
		t.Error("what is handed in is not as it was")
	}
}

func TestPaintForManyAtOnce(t *testing.T) {
	d := dice(131)
	s, top, m := somePainted(&d, 36, 36), somePainted(&d, 36, 36), someMask(&d, 36, 36)
	painted, _ := impl.PaintMask(s, m, tint(9, 8, 7, 100))
	laid, _ := impl.LaySheet(s, top, 99)
	b, _ := impl.SheetBytes(s)
	var all sync.WaitGroup
	for range 20 {
		all.Add(1)
		go func() {
			defer all.Done()
			checkPainted(t, s, m, tint(9, 8, 7, 100), painted)
			checkLaid(t, s, top, 99, laid)
			checkBytes(t, s, b...)
		}()
	}
	all.Wait()
}
