package tests

import (
	"math"
	"slices"
	"strconv"
	"strings"
	"testing"

	"loop.example/g00137/impl"
)

func checkEllipse(t *testing.T, cx, cy, rx, ry int, want []impl.Point) {
	t.Helper()
	if got, ok := impl.EllipseOf(cx, cy, rx, ry); !slices.Equal(got.Points, want) || !got.Closed || !ok {
		t.Errorf("EllipseOf %d %d %d %d: %v, %v; not %v", cx, cy, rx, ry, got, ok, want)
	}
}

func checkNoEllipse(t *testing.T, cx, cy, rx, ry int) {
	t.Helper()
	if got, ok := impl.EllipseOf(cx, cy, rx, ry); len(got.Points) != 0 || got.Closed || ok {
		t.Errorf("EllipseOf %d %d %d %d: %v, %v", cx, cy, rx, ry, got, ok)
	}
}

// roundAsTold takes each of the points from k on up to another one by the sine's rule and by whole numbers of any size.
func roundAsTold(cx, cy, rx, ry, from, to int) []impl.Point {
	var l []impl.Point
	for k := from; k <= to; k++ {
		sin, cos := sineAsTold(k*128%4096), sineAsTold((k*128+1024)%4096)
		l = append(l, impl.Point{X: cx + nearestCut(times(rx, cos), whole(one)), Y: cy + nearestCut(times(ry, sin), whole(one))})
	}
	return l
}

func allPointsFixed(l []impl.Point) bool {
	return !slices.ContainsFunc(l, func(p impl.Point) bool { return !impl.GoodFixed(p.X) || !impl.GoodFixed(p.Y) })
}

func TestEllipseOfByHand(t *testing.T) {
	// Of half the height halves come up: they go to the greater number on both sides of 0.
	checkEllipse(t, 0, 0, one, one/2, pointsFor(
		65536, 0, 64277, 6393, 60547, 12540, 54491, 18205, 46341, 23171, 36410, 27246, 25080, 30274, 12785, 32139,
		0, 32768, -12785, 32139, -25080, 30274, -36410, 27246, -46341, 23171, -54491, 18205, -60547, 12540, -64277, 6393,
		-65536, 0, -64277, -6392, -60547, -12540, -54491, -18205, -46341, -23170, -36410, -27245, -25080, -30273, -12785, -32138,
		0, -32768, 12785, -32138, 25080, -30273, 36410, -27245, 46341, -23170, 54491, -18205, 60547, -12540, 64277, -6392))
	checkEllipse(t, 1000, -2000, 10, 100, pointsFor(
		1010, -2000, 1010, -1980, 1009, -1962, 1008, -1944, 1007, -1929, 1006, -1917, 1004, -1908, 1002, -1902,
		1000, -1900, 998, -1902, 996, -1908, 994, -1917, 993, -1929, 992, -1944, 991, -1962, 990, -1980,
		990, -2000, 990, -2020, 991, -2038, 992, -2056, 993, -2071, 994, -2083, 996, -2092, 998, -2098,
		1000, -2100, 1002, -2098, 1004, -2092, 1006, -2083, 1007, -2071, 1008, -2056, 1009, -2038, 1010, -2020))
}

func TestEllipseOfFlatRadii(t *testing.T) {
	checkEllipse(t, 5, -6, 0, 0, slices.Repeat(pointsFor(5, -6), impl.Circle))
	for _, r := range []int{1, 2, one, 77 * one, impl.MaxFixed} {
		checkEllipse(t, 0, 0, 0, r, roundAsTold(0, 0, 0, r, 0, 31))
		checkEllipse(t, 0, 0, r, 0, roundAsTold(0, 0, r, 0, 0, 31))
		flat, _ := impl.EllipseOf(3, 4, 0, 1)
		for _, p := range flat.Points {
			if p.X != 3 || p.Y < 3 || p.Y > 5 {
				t.Error(p)
			}
		}
	}
}

func TestEllipseOfEdges(t *testing.T) {
	most := impl.MaxFixed
	checkEllipse(t, 0, 0, most, most, roundAsTold(0, 0, most, most, 0, 31))
	checkEllipse(t, most, -most, 0, 0, slices.Repeat(pointsFor(most, -most), impl.Circle))
	checkEllipse(t, most-7, 7-most, 7, 7, roundAsTold(most-7, 7-most, 7, 7, 0, 31))
	checkEllipse(t, 7-most, most-7, 7, 7, roundAsTold(7-most, most-7, 7, 7, 0, 31))
	for _, c := range [][4]int{{most, 0, 1, 0}, {-most, 0, 1, 0}, {0, most, 0, 1}, {0, -most, 0, 1}, {most - 6, 0, 7, 7}, {0, most - 6, 7, 7}, {6 - most, 0, 7, 7}, {0, 6 - most, 7, 7},
		{1, 0, most, 1}, {-1, 0, most, 1}, {0, 1, 1, most}, {0, -1, 1, most}, {most, most, most, most}, {-most, -most, most, most}} {
		checkNoEllipse(t, c[0], c[1], c[2], c[3])
	}
	for _, r := range []int{-1, -2, -one, -most} {
		checkNoEllipse(t, 0, 0, r, one)
		checkNoEllipse(t, 0, 0, one, r)
		checkNoEllipse(t, 0, 0, r, r)
		checkNoEllipse(t, 0, 0, r, 0)
		checkNoEllipse(t, 0, 0, 0, r)
	}
	for k := range 4 {
		for _, x := range noFixed {
			c := [4]int{0, 0, 1, 1}
			c[k] = x
			checkNoEllipse(t, c[0], c[1], c[2], c[3])
			checkNoEllipse(t, x, x, x, x)
		}
	}
}

func TestEllipseOfAnyNumbers(t *testing.T) {
	d := dice(95)
	good, bad := 0, 0
	for range 5000 {
		cx, cy, rx, ry := someFar(&d), someFar(&d), max(someFar(&d), -someFar(&d)/5), max(someFar(&d), -someFar(&d)/5)
		want := roundAsTold(cx, cy, rx, ry, 0, 31)
		if rx < 0 || ry < 0 || !allPointsFixed(want) {
			bad++
			checkNoEllipse(t, cx, cy, rx, ry)
		} else {
			good++
			checkEllipse(t, cx, cy, rx, ry, want)
		}
	}
	if good < 1000 || bad < 1000 {
		t.Error("only", good, "good and", bad, "others")
	}
}

func checkRect(t *testing.T, x, y, wide, high, r int, want []impl.Point) {
	t.Helper()
	if got, ok := impl.RectOf(x, y, wide, high, r); !slices.Equal(got.Points, want) || !got.Closed || !ok {
		t.Errorf("RectOf %d %d %d %d %d: %v, %v; not %v", x, y, wide, high, r, got, ok, want)
	}
}

func checkNoRect(t *testing.T, x, y, wide, high, r int) {
	t.Helper()
	if got, ok := impl.RectOf(x, y, wide, high, r); len(got.Points) != 0 || got.Closed || ok {
		t.Errorf("RectOf %d %d %d %d %d: %v, %v", x, y, wide, high, r, got, ok)
	}
}

func plainRect(x, y, wide, high int) []impl.Point {
	return pointsFor(x, y, x+wide, y, x+wide, y+high, x, y+high)
}

// rectAsTold takes numbers that are good.
func rectAsTold(x, y, wide, high, r int) []impl.Point {
	r = min(r, downAsTold(whole(wide), 2))
	r = min(r, downAsTold(whole(high), 2))
	if r == 0 {
		return plainRect(x, y, wide, high)
	}
	return slices.Concat(
		roundAsTold(x+wide-r, y+high-r, r, r, 0, 8),
		roundAsTold(x+r, y+high-r, r, r, 8, 16),
		roundAsTold(x+r, y+r, r, r, 16, 24),
		roundAsTold(x+wide-r, y+r, r, r, 24, 32))
}

func TestRectOfByHand(t *testing.T) {
	checkRect(t, 10, 20, 4, 3, 0, pointsFor(10, 20, 14, 20, 14, 23, 10, 23))
	checkRect(t, -10, -20, 4, 3, 0, pointsFor(-10, -20, -6, -20, -6, -17, -10, -17))
	checkRect(t, 10, 20, 4000, 3000, 1000, pointsFor(
		4010, 2020, 3991, 2215, 3934, 2403, 3841, 2576, 3717, 2727, 3566, 2851, 3393, 2944, 3205, 3001, 3010, 3020,
		1010, 3020, 815, 3001, 627, 2944, 454, 2851, 303, 2727, 179, 2576, 86, 2403, 29, 2215, 10, 2020,
		10, 1020, 29, 825, 86, 637, 179, 464, 303, 313, 454, 189, 627, 96, 815, 39, 1010, 20,
		3010, 20, 3205, 39, 3393, 96, 3566, 189, 3717, 313, 3841, 464, 3934, 637, 3991, 825, 4010, 1020))
}

func TestRectOfRadii(t *testing.T) {
	// r is cut to half of each side, rounded down; where it becomes 0 the corners are plain.
	for wide := range 12 {
		for high := range 12 {
			for r := range 9 {
				cut := min(r, wide/2, high/2)
				want := rectAsTold(100, -100, wide, high, cut)
				checkRect(t, 100, -100, wide, high, r, want)
				if count := map[bool]int{true: 4, false: 36}[cut == 0]; len(want) != count {
					t.Fatal(wide, high, r, len(want))
				}
			}
			checkRect(t, 0, 0, wide, high, impl.MaxFixed, rectAsTold(0, 0, wide, high, min(wide/2, high/2)))
		}
	}
	checkRect(t, 0, 0, 1, 1000, 500, plainRect(0, 0, 1, 1000))
	checkRect(t, 0, 0, 1000, 1, 1, plainRect(0, 0, 1000, 1))
	checkRect(t, 7, 8, 0, 0, 0, plainRect(7, 8, 0, 0))
	checkRect(t, 7, 8, 0, 9, 5, pointsFor(7, 8, 7, 8, 7, 17, 7, 17))
	checkRect(t, 7, 8, 9, 0, 5, pointsFor(7, 8, 16, 8, 16, 8, 7, 8))
	for _, r := range []int{101, 102, 150, 151, 152, 5000} {
		// Half of 201 is 100, whatever the other side is.
		checkRect(t, 1, 2, 201, 300, r, rectAsTold(1, 2, 201, 300, 100))
		checkRect(t, 1, 2, 300, 201, r, rectAsTold(1, 2, 300, 201, 100))
	}
	for _, r := range []int{1, 99, 100} {
		checkRect(t, 1, 2, 201, 300, r, rectAsTold(1, 2, 201, 300, r))
	}
}

func TestRectOfEdges(t *testing.T) {
	most := impl.MaxFixed
	checkRect(t, 0, 0, most, most, 0, plainRect(0, 0, most, most))
	checkRect(t, 0, 0, most, most, most, rectAsTold(0, 0, most, most, most/2))
	checkRect(t, -most, -most, most, most, one, rectAsTold(-most, -most, most, most, one))
	checkRect(t, most, most, 0, 0, most, plainRect(most, most, 0, 0))
	checkRect(t, most-5, most-6, 5, 6, 2, rectAsTold(most-5, most-6, 5, 6, 2))
	for _, r := range []int{0, 1, 2, most} {
		checkNoRect(t, most-4, 0, 5, 6, r)
		checkNoRect(t, 0, most-5, 5, 6, r)
		checkNoRect(t, most, most, 5, 6, r)
		checkNoRect(t, 1, 0, most, 5, r)
		checkNoRect(t, 0, 1, 5, most, r)
		checkNoRect(t, most, 0, 1, 0, r)
		checkNoRect(t, 0, most, 0, 1, r)
	}
	for _, below := range []int{-1, -2, -one, -most} {
		for _, other := range []int{0, 1, one} {
			checkNoRect(t, 0, 0, below, other, other)
			checkNoRect(t, 0, 0, other, below, other)
			checkNoRect(t, 0, 0, other, other, below)
			checkNoRect(t, 0, 0, below, below, other)
		}
		checkNoRect(t, 0, 0, below, below, below)
	}
	for k := range 5 {
		for _, x := range noFixed {
			c := [5]int{0, 0, 10, 10, 1}
			c[k] = x
			checkNoRect(t, c[0], c[1], c[2], c[3], c[4])
			checkNoRect(t, x, x, x, x, x)
		}
	}
}

func TestRectOfAnyNumbers(t *testing.T) {
	d := dice(96)
	good, bad := 0, 0
	for range 8000 {
		x, y, wide, high, r := someFar(&d), someFar(&d), someFar(&d), someFar(&d), someFar(&d)
		if d.below(4) > 0 {
			wide, high, r = max(wide, -wide), max(high, -high), max(r, -r)
		}
		if min(wide, high, r) < 0 || !allPointsFixed(rectAsTold(x, y, wide, high, r)) {
			bad++
			checkNoRect(t, x, y, wide, high, r)
		} else {
			good++
			checkRect(t, x, y, wide, high, r, rectAsTold(x, y, wide, high, r))
		}
	}
	if good < 1000 || bad < 1000 {
		t.Error("only", good, "good and", bad, "others")
	}
}

func checkShape(t *testing.T, n impl.Node, want ...impl.Line) {
	t.Helper()
	if got, ok := impl.ShapeLines(n); !sameLines(got, want) || !ok {
		t.Errorf("%v: ShapeLines %v, %v; not %v", n, got, ok, want)
	}
}

func checkNoShape(t *testing.T, n impl.Node) {
	t.Helper()
	if got, ok := impl.ShapeLines(n); len(got) != 0 || ok {
		t.Errorf("%v: ShapeLines %v, %v", n, got, ok)
	}
}

// shapeFor reads one element from its text.
func shapeFor(t *testing.T, s string) impl.Node {
	t.Helper()
	return treeOf(t, s)[0]
}

func ring(points []impl.Point) impl.Line { return impl.Line{Points: points, Closed: true} }

func TestShapeLinesOfEachName(t *testing.T) {
	const o = one
	for s, want := range map[string][]impl.Line{
		`<rect width="2" height="3"/>`:                      {ringLine(0, 0, 2*o, 0, 2*o, 3*o, 0, 3*o)},
		`<rect x="-1" y="5" width="2" height="3"/>`:         {ringLine(-o, 5*o, o, 5*o, o, 8*o, -o, 8*o)},
		`<rect x="1in" y="3pt" width="1px" height="1pc"/>`:  {ringLine(96*o, 4*o, 97*o, 4*o, 97*o, 20*o, 96*o, 20*o)},
		`<rect x="7" y="8" width="20" height="30" rx="4"/>`: {ring(rectAsTold(7*o, 8*o, 20*o, 30*o, 4*o))},
		`<circle r="5"/>`:                                               {ring(roundAsTold(0, 0, 5*o, 5*o, 0, 31))},
		`<circle cx="1" cy="-2" r="1.5"/>`:                              {ring(roundAsTold(o, -2*o, o+o/2, o+o/2, 0, 31))},
		`<ellipse rx="5" ry="7"/>`:                                      {ring(roundAsTold(0, 0, 5*o, 7*o, 0, 31))},
		`<ellipse cx="1" cy="-2" rx="3" ry=".5"/>`:                      {ring(roundAsTold(o, -2*o, 3*o, o/2, 0, 31))},
		`<line x1="1" y1="2" x2="3" y2="4"/>`:                           {openLine(o, 2*o, 3*o, 4*o)},
		`<line/>`:                                                       {openLine(0, 0, 0, 0)},
		`<line x1="1" y1="2" x2="1" y2="2"/>`:                           {openLine(o, 2*o, o, 2*o)},
		`<polyline points="1 2 3 4"/>`:                                  {openLine(o, 2*o, 3*o, 4*o)},
		`<polyline points=" 1,2-3,4 .5 , 6 "/>`:                         {openLine(o, 2*o, -3*o, 4*o, o/2, 6*o)},
		`<polygon points="1 2 3 4"/>`:                                   {ringLine(o, 2*o, 3*o, 4*o)},
		`<polygon points="1 2 3 4 1 2"/>`:                               {ringLine(o, 2*o, 3*o, 4*o, o, 2*o)},
		`<path d="M1 2L3 4"/>`:                                          {openLine(o, 2*o, 3*o, 4*o)},
		`<path d="M0 0L1 0z l2 2"/>`:                                    {ringLine(0, 0, o, 0), openLine(0, 0, 2*o, 2*o)},
		`<path d=" M1 2H5 M7 7 zM1 1 "/>`:                               {openLine(o, 2*o, 5*o, 2*o)},
		`<rect width="2" height="3">text</rect>`:                        {ringLine(0, 0, 2*o, 0, 2*o, 3*o, 0, 3*o)},
		`<rect width="2" height="3" r="9" cx="x" points="y" d="z"/>`:    {ringLine(0, 0, 2*o, 0, 2*o, 3*o, 0, 3*o)},
		`<circle r="1" rx="-1" ry="x" x="y" width="-3"/>`:               {ring(roundAsTold(0, 0, o, o, 0, 31))},
		`<ellipse rx="1" ry="2" r="-1" x="y" height="z"/>`:              {ring(roundAsTold(0, 0, o, 2*o, 0, 31))},
		`<line x="a" y="b" width="-1" r="-1" x2="1" points="1"/>`:       {openLine(0, 0, o, 0)},
		`<polyline points="1 2 3 4" x="a" d="b" r="-1"/>`:               {openLine(o, 2*o, 3*o, 4*o)},
		`<path d="M1 2L3 4" points="1" x="a" r="-1"/>`:                  {openLine(o, 2*o, 3*o, 4*o)},
		`<rect X="9" Width="9" width="2" height="3"/>`:                  {ringLine(0, 0, 2*o, 0, 2*o, 3*o, 0, 3*o)},
		`<path d="M0 0C0 0 0 0 0 0"/>`:                                  {{Points: make([]impl.Point, 9)}},
		`<rect id="a" style="x:1" transform="b" width="2" height="3"/>`: {ringLine(0, 0, 2*o, 0, 2*o, 3*o, 0, 3*o)},
	} {
		checkShape(t, shapeFor(t, s), want...)
	}
}

func TestShapeLinesOfEachAttribute(t *testing.T) {
	names := map[string][]string{"rect": {"x", "y", "width", "height", "rx"}, "circle": {"cx", "cy", "r"}, "ellipse": {"cx", "cy", "rx", "ry"}, "line": {"x1", "y1", "x2", "y2"}}
	for name, attrs := range names {
		for there := range 1 << len(attrs) {
			n := elementIn(0, name)
			told := map[string]int{}
			for k, a := range attrs {
				if there>>k&1 == 1 {
					n.Attrs = append(n.Attrs, impl.Attr{Name: a, Value: strconv.Itoa(k + 3)})
					told[a] = (k + 3) * one
				}
			}
			want, ok := shapeAsTold(n)
			if !ok {
				t.Fatal(n)
			}
			checkShape(t, n, want...)
			slices.Reverse(n.Attrs)
			checkShape(t, n, want...)
			if drawn := told["width"] > 0 && told["height"] > 0 || told["r"] > 0 || told["rx"] > 0 && told["ry"] > 0 || name == "line"; drawn != (len(want) == 1) {
				t.Errorf("%v: %v", n, want)
			}
		}
		for k, a := range attrs {
			for _, value := range []string{"", " ", "a", "1 2", "1%", "1em", "1.", "--1", "16777217", "#1", "none", "auto", "\x00", strings.Repeat(" ", 600) + "1"} {
				n := elementIn(0, name)
				for j, other := range attrs {
					n.Attrs = append(n.Attrs, impl.Attr{Name: other, Value: strconv.Itoa(j + 1)})
				}
				n.Attrs[k].Value = value
				checkNoShape(t, n)
				// Wrong ones are told ahead of nothing at all, too.
				checkNoShape(t, elementIn(0, name, a, value))
			}
		}
	}
}

func TestShapeLinesOfRectRadii(t *testing.T) {
	const base = `<rect x="1" y="2" width="20" height="30" `
	rect := func(r int) impl.Line { return ring(rectAsTold(one, 2*one, 20*one, 30*one, r)) }
	for attrs, r := range map[string]int{
		``: 0, `rx="3"`: 3 * one, `ry="3"`: 3 * one, `rx="3" ry="5"`: 3 * one, `ry="5" rx="3"`: 3 * one, `rx="0"`: 0, `ry="0"`: 0, `rx="0" ry="5"`: 0, `rx="5" ry="0"`: 5 * one,
		`rx="99"`: 10 * one, `ry="99"`: 10 * one, `rx="3" ry="-5"`: 3 * one, `rx="3" ry="a"`: 3 * one, `rx="3" ry=""`: 3 * one, `rx="0" ry="-1"`: 0, `r="3"`: 0, `rx=".00001"`: 1,
	} {
		checkShape(t, shapeFor(t, base+attrs+"/>"), rect(r))
	}
	for _, attrs := range []string{`rx="-1"`, `ry="-1"`, `rx="-1" ry="3"`, `rx="a" ry="3"`, `rx="" ry="3"`, `rx="-.00001"`, `ry=""`, `ry="a"`, `rx=" "`} {
		checkNoShape(t, shapeFor(t, base+attrs+"/>"))
	}
}

func TestShapeLinesOfNothing(t *testing.T) {
	for _, s := range []string{
		`<rect/>`, `<rect width="2"/>`, `<rect height="2"/>`, `<rect width="0" height="2"/>`, `<rect width="2" height="0"/>`, `<rect width="0" height="0" rx="3"/>`, `<rect x="5" y="5" rx="3"/>`,
		`<rect width=".000001" height="2"/>`, `<rect width="-0" height="2"/>`, `<rect width="2" height="0px" ry="1"/>`,
		`<rect x="16777216" width="0" height="5"/>`, `<rect y="16777216" width="0" height="5"/>`, `<rect x="16777216" width="5" height="0"/>`,
		`<circle/>`, `<circle cx="1" cy="2"/>`, `<circle r="0"/>`, `<circle r="-0"/>`, `<circle r=".000001"/>`, `<circle rx="1" ry="2"/>`,
		`<ellipse/>`, `<ellipse rx="1"/>`, `<ellipse ry="1"/>`, `<ellipse rx="0" ry="1"/>`, `<ellipse rx="1" ry="0"/>`, `<ellipse r="1"/>`, `<ellipse rx="0" ry="16777216" cy="16777216"/>`,
		`<polyline/>`, `<polygon/>`, `<polyline points=""/>`, `<polygon points=""/>`, `<polyline points="  "/>`, `<polygon points=" &#9;&#10;&#13; "/>`, `<polyline points="1 2"/>`, `<polygon points="1 2"/>`,
		`<polyline points="0 0"/>`, `<polygon points="1,-2 "/>`, `<path/>`, `<path d=""/>`, `<path d="  "/>`, `<path d="M1 2"/>`, `<path d="M1 2z"/>`, `<path d="M1 2M3 4zz"/>`,
	} {
		checkShape(t, shapeFor(t, s))
	}
	checkShape(t, elementIn(0, "polyline", "points", strings.Repeat(" ", impl.MaxValue+1)))
	checkShape(t, elementIn(0, "path", "d", strings.Repeat(" ", impl.MaxValue)))
}

func TestShapeLinesOfWrongShapes(t *testing.T) {
	for _, s := range []string{
		`<rect width="-1" height="2"/>`, `<rect width="2" height="-1"/>`, `<rect width="-1" height="-1"/>`, `<rect width="0" height="-1"/>`, `<rect width="-1"/>`, `<rect height="-1"/>`,
		`<rect width="0" height="0" rx="-1"/>`, `<rect ry="-1"/>`, `<rect width="2" height="2" x="a"/>`, `<rect x="a"/>`, `<rect width="0" height="2" y=""/>`, `<rect width="50%" height="2"/>`,
		`<rect x="16777216" width="1" height="1"/>`, `<rect y="16777216" width="1" height="1"/>`, `<rect x="1" width="16777216" height="1" rx="1"/>`,
		`<circle r="-1"/>`, `<circle r="-.00001"/>`, `<circle r="a"/>`, `<circle cx="a"/>`, `<circle cy="" r="1"/>`, `<circle cx="16777216" r="1"/>`, `<circle r="16777217"/>`,
		`<ellipse rx="-1" ry="1"/>`, `<ellipse rx="1" ry="-1"/>`, `<ellipse rx="-1"/>`, `<ellipse ry="-1"/>`, `<ellipse rx="0" ry="-1"/>`, `<ellipse rx="a" ry="0"/>`, `<ellipse rx="0" ry="a"/>`,
		`<ellipse cy="16777216" rx="1" ry="1"/>`,
		`<line x1="a"/>`, `<line x1="1" y1="2" x2="3" y2=""/>`, `<line y2="16777217"/>`, `<line x2="1 2"/>`,
		`<polyline points="1"/>`, `<polygon points="1"/>`, `<polyline points="1 2 3"/>`, `<polygon points="1 2 3"/>`, `<polyline points="a"/>`, `<polygon points="1 2 a 4"/>`, `<polyline points="1 2,"/>`,
		`<polyline points=","/>`, `<polygon points="1px 2px 3 4"/>`, `<polyline points="none"/>`, `<polygon points="1 2 3 16777217"/>`, `<polyline points="1,,2"/>`,
		`<path d="a"/>`, `<path d="L1 2"/>`, `<path d="M1"/>`, `<path d="M1 2L3"/>`, `<path d="M1 2 A1 1 0 0 0 1 1"/>`, `<path d="none"/>`, `<path d=","/>`, `<path d="M16777217 0"/>`,
	} {
		checkNoShape(t, shapeFor(t, s))
	}
	checkNoShape(t, elementIn(0, "path", "d", strings.Repeat(" ", impl.MaxValue+1)))
	checkNoShape(t, elementIn(0, "polygon", "points", "1 2 3 4"+strings.Repeat(" ", impl.MaxValue)))
	for _, name := range []string{"", "g", "svg", "use", "symbol", "Rect", "RECT", " rect", "rect ", "rects", "rec", "circles", "Line", "polyLine", "poly", "Path", "text", "image", "x:rect", "\xff", "points"} {
		checkNoShape(t, elementIn(0, name))
		checkNoShape(t, elementIn(0, name, "width", "2", "height", "3", "r", "1", "rx", "1", "ry", "1", "points", "1 2 3 4", "d", "M1 1L2 2"))
	}
	checkNoShape(t, textIn(0, "rect"))
	checkNoShape(t, textIn(0, "M1 1L2 2"))
	checkNoShape(t, impl.Node{})
}

func TestShapeLinesHowManyNumbers(t *testing.T) {
	for count := range impl.MaxSteps + 5 {
		var n []int
		var told []string
		for k := range count {
			n, told = append(n, (k+1)*one), append(told, strconv.Itoa(k+1))
		}
		for _, name := range []string{"polyline", "polygon"} {
			e := elementIn(0, name, "points", strings.Join(told, " "))
			switch {
			case count > impl.MaxSteps || count%2 == 1:
				checkNoShape(t, e)
			case count <= 2:
				checkShape(t, e)
			default:
				checkShape(t, e, impl.Line{Points: pointsFor(n...), Closed: name == "polygon"})
			}
		}
	}
	curves := "M1 1c" + strings.TrimRight(strings.Repeat("0 0 1 0 1 1 ", 40), " ")
	if l, ok := impl.ShapeLines(elementIn(0, "path", "d", curves)); !ok || len(l) != 1 || len(l[0].Points) != 321 {
		t.Error(len(l), ok)
	}
}

// shapeAsTold looks for what is wrong first, then for what is nothing.
func shapeAsTold(n impl.Node) ([]impl.Line, bool) {
	texts := map[string]string{}
	for _, a := range slices.Backward(n.Attrs) {
		texts[a.Name] = a.Value
	}
	lengths := func(names ...string) ([]int, bool) {
		var l []int
		for _, name := range names {
			s, there := texts[name]
			v, ok := lengthAsTold(s)
			if there && (!ok || len(s) > impl.MaxValue) {
				return nil, false
			}
			l = append(l, v)
		}
		return l, true
	}
	drawn := func(points []impl.Point) ([]impl.Line, bool) {
		return []impl.Line{ring(points)}, allPointsFixed(points)
	}
	switch n.Name {
	case "rect":
		r := "rx"
		if _, there := texts[r]; !there {
			r = "ry"
		}
		v, ok := lengths("x", "y", "width", "height", r)
		if !ok || slices.Min(v[2:]) < 0 || v[2] == 0 || v[3] == 0 {
			return nil, ok && slices.Min(v[2:]) >= 0
		}
		return drawn(rectAsTold(v[0], v[1], v[2], v[3], v[4]))
	case "circle", "ellipse":
		radii := map[string][]string{"circle": {"r", "r"}, "ellipse": {"rx", "ry"}}[n.Name]
		v, ok := lengths("cx", "cy", radii[0], radii[1])
		if !ok || slices.Min(v[2:]) <= 0 {
			return nil, ok && slices.Min(v[2:]) == 0
		}
		return drawn(roundAsTold(v[0], v[1], v[2], v[3], 0, 31))
	case "line":
		v, ok := lengths("x1", "y1", "x2", "y2")
		return []impl.Line{openLine(v...)}, ok
	case "polyline", "polygon":
		s := strings.Trim(texts["points"], "\t\n\r ")
		v, ok := numbersAsTold(s)
		if s == "" || !ok || len(v)%2 == 1 || len(v) > 60 || len(v) == 2 {
			return nil, s == "" || ok && len(v) == 2
		}
		return []impl.Line{{Points: pointsFor(v...), Closed: n.Name == "polygon"}}, true
	case "path":
		steps, ok := pathAsTold(texts["d"])
		if !ok {
			return nil, false
		}
		return linesAsTold(steps)
	}
	return nil, false
}

func someShape(d *dice) impl.Node {
	n := elementIn(d.below(9)-4, oneOf(d, append(strings.Fields(shapeNames), "g")...))
	for _, name := range strings.Fields("x y width height rx ry cx cy r x1 y1 x2 y2 width height r") {
		if d.below(3) > 0 {
			n.Attrs = append(n.Attrs, impl.Attr{Name: name, Value: oneOf(d, "1", "2", "3", "4.5", "10", "7px", "1in", ".25", " 6 ", "20", "0", "-2", "a", "16777216", "5", "8", "9")})
		}
	}
	if d.below(10) > 0 {
		n.Attrs = append(n.Attrs, impl.Attr{Name: "points", Value: someRow(d, d.below(7))}, impl.Attr{Name: "d", Value: somePath(d)})
	}
	return n
}

func TestShapeLinesOfAnyNodes(t *testing.T) {
	d := dice(97)
	drawn, nothing, wrong := 0, 0, 0
	for range 20000 {
		n := someShape(&d)
		want, ok := shapeAsTold(n)
		if !ok {
			wrong++
			checkNoShape(t, n)
			continue
		}
		checkShape(t, n, want...)
		if len(want) > 0 {
			drawn++
		} else {
			nothing++
		}
	}
	if drawn < 2000 || nothing < 1000 || wrong < 2000 {
		t.Error("only", drawn, "drawn,", nothing, "nothing,", wrong, "wrong")
	}
}

func TestShapesAtAnyArguments(t *testing.T) {
	extremes := []int{math.MinInt, math.MaxInt, math.MinInt + 1, -1, 0, 1, impl.MaxFixed, -impl.MaxFixed, impl.MaxFixed + 1}
	for _, a := range extremes {
		for _, b := range extremes {
			for _, c := range extremes {
				for _, e := range extremes {
					good := impl.GoodFixed(a) && impl.GoodFixed(b) && impl.GoodFixed(c) && impl.GoodFixed(e) && c >= 0 && e >= 0
					if good && allPointsFixed(roundAsTold(a, b, c, e, 0, 31)) {
						checkEllipse(t, a, b, c, e, roundAsTold(a, b, c, e, 0, 31))
					} else {
						checkNoEllipse(t, a, b, c, e)
					}
					for _, r := range []int{math.MinInt, -1, 0, 1, impl.MaxFixed, math.MaxInt} {
						if good && r >= 0 && impl.GoodFixed(r) && allPointsFixed(rectAsTold(a, b, c, e, r)) {
							checkRect(t, a, b, c, e, r, rectAsTold(a, b, c, e, r))
						} else {
							checkNoRect(t, a, b, c, e, r)
						}
					}
				}
			}
		}
	}
	for _, up := range extremes {
		n := elementIn(up, "rect", "width", "2", "height", "3", "width", "-5", "", "\xff")
		n.Text = "\x00"
		checkShape(t, n, ring(plainRect(0, 0, 2*one, 3*one)))
	}
	checkShape(t, elementIn(0, "rect", append(manyAttrs(5000), "width", "2", "height", "3")...), ring(plainRect(0, 0, 2*one, 3*one)))
	for _, value := range append(badTexts(), strings.Repeat("1 ", 100000), strings.Repeat("M1 1L2 2", 100000), "\xff", "M\xff") {
		for name, attr := range map[string]string{"rect": "rx", "circle": "r", "ellipse": "ry", "line": "x2", "polyline": "points", "polygon": "points", "path": "d"} {
			if strings.Trim(value, "\t\n\r ") != "" {
				checkNoShape(t, elementIn(0, name, attr, value))
			}
		}
	}
}

func TestShapesAreNewMemory(t *testing.T) {
	single := func(l impl.Line, ok bool) []impl.Line {
		if !ok {
			t.Fatal("no line")
		}
		return []impl.Line{l}
	}
	checkLinesApart(t, "EllipseOf", func() []impl.Line { return single(impl.EllipseOf(1, 2, 300, 400)) })
	checkLinesApart(t, "RectOf", func() []impl.Line { return single(impl.RectOf(1, 2, 300, 400, 0)) })
	checkLinesApart(t, "RectOf", func() []impl.Line { return single(impl.RectOf(1, 2, 300, 400, 50)) })
	for _, s := range []string{`<rect width="2" height="3"/>`, `<rect width="2" height="3" rx="1"/>`, `<circle r="3"/>`, `<ellipse rx="3" ry="4"/>`, `<line x1="3"/>`, `<polyline points="1 2 3 4"/>`,
		`<polygon points="1 2 3 4 5 6"/>`, `<path d="M1 2 3 4 5 6zM3 3 4 4zl5 5C1 1 2 2 3 3zc1 1 2 2 3 3m4 4h1v1"/>`} {
		// Behind the attributes' end stand others that would change what is drawn.
		n := roomyNodes(treeOf(t, s), "rx", "-1", "x", "a", "cx", "b", "y2", "c", "points", "d", "d", "e")
		before := cloneNodes(behindNodes(n))
		checkLinesApart(t, s, func() []impl.Line {
			l, ok := impl.ShapeLines(n[0])
			if !ok || len(l) == 0 {
				t.Fatal(s, l, ok)
			}
			return l
		})
		if !sameNodes(behindNodes(n), before) {
			t.Error(s, "is written into")
		}
	}
}
