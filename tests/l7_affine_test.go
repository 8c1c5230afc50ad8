package tests

import (
	"math"
	"math/big"
	"regexp"
	"strconv"
	"strings"
	"testing"

	"loop.example/g00137/impl"
)

// farthest is how far the numbers of a good affine may be from 0.
const farthest = impl.MaxFixed / 256

var same = impl.Affine{A: one, D: one}

func affine(n [6]int) impl.Affine {
	return impl.Affine{A: n[0], B: n[1], C: n[2], D: n[3], E: n[4], F: n[5]}
}

func sixOf(a impl.Affine) [6]int { return [6]int{a.A, a.B, a.C, a.D, a.E, a.F} }

func goodAsTold(n [6]int) bool {
	for _, x := range n {
		if big.NewInt(0).Abs(whole(x)).Cmp(whole(farthest)) > 0 {
			return false
		}
	}
	return true
}

// mulAsTold multiplies as square tables of nine numbers; the product with One is the number itself.
func mulAsTold(a, b [6]int) ([6]int, bool) {
	left := [3][3]int{{a[0], a[2], a[4]}, {a[1], a[3], a[5]}, {0, 0, one}}
	right := [3][3]int{{b[0], b[2], b[4]}, {b[1], b[3], b[5]}, {0, 0, one}}
	var m [3][3]int
	for row := range 3 {
		for column := range 3 {
			for k := range 3 {
				m[row][column] += nearestCut(times(left[row][k], right[k][column]), whole(one))
			}
		}
	}
	n := [6]int{m[0][0], m[1][0], m[0][1], m[1][1], m[0][2], m[1][2]}
	if !goodAsTold(a) || !goodAsTold(b) || !goodAsTold(n) {
		return [6]int{}, false
	}
	return n, true
}

func checkMul(t *testing.T, a, b, want [6]int) {
	t.Helper()
	if got, ok := impl.MulAffine(affine(a), affine(b)); got != affine(want) || !ok {
		t.Errorf("%v %v: MulAffine %v, %v; not %v", a, b, got, ok, want)
	}
}

func checkNoMul(t *testing.T, a, b [6]int) {
	t.Helper()
	if got, ok := impl.MulAffine(affine(a), affine(b)); got != (impl.Affine{}) || ok {
		t.Errorf("%v %v: MulAffine %v, %v", a, b, got, ok)
	}
}

// someNumber answers a number of any size that a good affine may have, its edges often.
func someNumber(d *dice) int {
	n := 0
	switch d.below(6) {
	case 0:
		n = 0
	case 1:
		n = one
	case 2:
		n = farthest - d.below(3)
	case 3:
		n = d.below(3 * one)
	case 4:
		n = d.below(farthest)
	case 5:
		n = d.below(200) * one / 2
	}
	if d.below(2) == 0 {
		return -n
	}
	return n
}

func someSix(d *dice) [6]int {
	var n [6]int
	for k := range n {
		n[k] = someNumber(d)
	}
	return n
}

func TestGoodAffine(t *testing.T) {
	if !impl.GoodAffine(impl.Affine{}) || !impl.GoodAffine(same) {
		t.Error("noughts and the one that does nothing are good")
	}
	for k := range 6 {
		for _, x := range []int{farthest, -farthest, farthest - 1, 1 - farthest, 0, 1, -1, one} {
			n := sixOf(same)
			n[k] = x
			if !impl.GoodAffine(affine(n)) {
				t.Error(n, "is good")
			}
			for j := range 6 {
				n[j] = x
			}
			if !impl.GoodAffine(affine(n)) {
				t.Error(n, "is good")
			}
		}
		for _, x := range []int{farthest + 1, -farthest - 1, 2 * farthest, impl.MaxFixed, -impl.MaxFixed, math.MaxInt, math.MinInt, math.MinInt + 1} {
			n := sixOf(same)
			n[k] = x
			if impl.GoodAffine(affine(n)) {
				t.Error(n, "is not good")
			}
			checkNoMul(t, n, sixOf(same))
			checkNoMul(t, sixOf(same), n)
			checkNoMul(t, n, [6]int{})
			checkNoMul(t, [6]int{}, n)
			checkNoMul(t, n, n)
		}
	}
}

func TestNothingAheadOrBehindChangesAnAffine(t *testing.T) {
	d := dice(71)
	for range 5000 {
		n := someSix(&d)
		checkMul(t, n, sixOf(same), n)
		checkMul(t, sixOf(same), n, n)
	}
}

func TestMulAffineByHand(t *testing.T) {
	move := [6]int{one, 0, 0, one, 3 * one, 4 * one}
	grow := [6]int{2 * one, 0, 0, 5 * one, 0, 0}
	turn := [6]int{0, one, -one, 0, 0, 0}
	checkMul(t, move, grow, [6]int{2 * one, 0, 0, 5 * one, 3 * one, 4 * one})
	checkMul(t, grow, move, [6]int{2 * one, 0, 0, 5 * one, 6 * one, 20 * one})
	checkMul(t, turn, move, [6]int{0, one, -one, 0, -4 * one, 3 * one})
	checkMul(t, move, turn, [6]int{0, one, -one, 0, 3 * one, 4 * one})
	checkMul(t, turn, grow, [6]int{0, 2 * one, -5 * one, 0, 0, 0})
	checkMul(t, grow, turn, [6]int{0, 5 * one, -2 * one, 0, 0, 0})
	checkMul(t, [6]int{1 * one, 2 * one, 3 * one, 4 * one, 5 * one, 6 * one}, [6]int{7 * one, 8 * one, 9 * one, 10 * one, 11 * one, 12 * one},
		[6]int{31 * one, 46 * one, 39 * one, 58 * one, 52 * one, 76 * one})
	// Each product is rounded by itself: two halves go up twice.
	checkMul(t, [6]int{1, 0, 1, 0, 0, 0}, [6]int{one / 2, one / 2, 0, 0, 0, 0}, [6]int{2, 0, 0, 0, 0, 0})
	checkMul(t, [6]int{-1, 0, -1, 0, 7, 0}, [6]int{one / 2, one / 2, 0, 0, one / 2, one/2 + 1}, [6]int{0, 0, 0, 0, 6, 0})
}

func TestMulAffineBeyondGood(t *testing.T) {
	big := [6]int{256 * one, 0, 0, 256 * one, 0, 0}
	checkMul(t, big, [6]int{256 * one, 0, 0, 256 * one, 0, 0}, [6]int{farthest, 0, 0, farthest, 0, 0})
	checkNoMul(t, big, [6]int{256*one + 1, 0, 0, one, 0, 0})
	checkNoMul(t, big, [6]int{one, 256*one + 1, 0, one, 0, 0})
	checkNoMul(t, big, [6]int{one, 0, -256*one - 1, one, 0, 0})
	checkNoMul(t, big, [6]int{one, 0, 0, -256*one - 1, 0, 0})
	checkNoMul(t, big, [6]int{one, 0, 0, one, 256*one + 1, 0})
	checkNoMul(t, big, [6]int{one, 0, 0, one, 0, -256*one - 1})
	far := [6]int{one, 0, 0, one, farthest, -farthest}
	checkMul(t, far, [6]int{one, 0, 0, one, -1, 1}, [6]int{one, 0, 0, one, farthest - 1, 1 - farthest})
	checkNoMul(t, far, [6]int{one, 0, 0, one, 1, 0})
	checkNoMul(t, far, [6]int{one, 0, 0, one, 0, -1})
	// Products are cut to the fixed numbers ahead of the sum, so that two may do away with each other.
	most := [6]int{farthest, 0, farthest, 0, 0, 0}
	checkMul(t, most, [6]int{farthest, -farthest, 0, 0, 0, 0}, [6]int{})
	checkMul(t, most, [6]int{farthest, -farthest / 2, 0, 0, 0, 0}, [6]int{})
	checkNoMul(t, most, [6]int{farthest, 0, 0, 0, 0, 0})
}

func TestMulAffineOfAnyTwo(t *testing.T) {
	d := dice(72)
	good := 0
	for range 20000 {
		a, b := someSix(&d), someSix(&d)
		if d.below(8) == 0 {
			a[d.below(6)] = []int{farthest + 1, -farthest - 1, math.MaxInt, math.MinInt}[d.below(4)]
		}
		want, ok := mulAsTold(a, b)
		if ok {
			good++
			checkMul(t, a, b, want)
		} else {
			checkNoMul(t, a, b)
		}
	}
	if good < 500 {
		t.Error("only", good, "products are good")
	}
}

func checkTransform(t *testing.T, s string, want [6]int) {
	t.Helper()
	if got, ok := impl.ReadTransform(s); got != affine(want) || !ok {
		t.Errorf("%q: ReadTransform %v, %v; not %v", s, got, ok, want)
	}
}

func checkNoTransform(t *testing.T, texts ...string) {
	t.Helper()
	for _, s := range texts {
		if got, ok := impl.ReadTransform(s); got != (impl.Affine{}) || ok {
			t.Errorf("%q: ReadTransform %v, %v", s, got, ok)
		}
	}
}

func TestReadTransformOfNone(t *testing.T) {
	for _, s := range []string{"", " ", "\t", "\n", "\r", "\t\n\r ", strings.Repeat(" ", impl.MaxValue)} {
		checkTransform(t, s, sixOf(same))
	}
	checkNoTransform(t, strings.Repeat(" ", impl.MaxValue+1), ",", " , ", ",,", "none", "\v", "\x00")
}

func TestReadTransformOfEachWord(t *testing.T) {
	for s, want := range map[string][6]int{
		"translate(3)":            {one, 0, 0, one, 3 * one, 0},
		"translate(-3 4.5)":       {one, 0, 0, one, -3 * one, 4*one + one/2},
		"translate(3,4)":          {one, 0, 0, one, 3 * one, 4 * one},
		"translate(3-4)":          {one, 0, 0, one, 3 * one, -4 * one},
		"translate(0)":            {one, 0, 0, one, 0, 0},
		"scale(2)":                {2 * one, 0, 0, 2 * one, 0, 0},
		"scale(-.5)":              {-one / 2, 0, 0, -one / 2, 0, 0},
		"scale(2 3)":              {2 * one, 0, 0, 3 * one, 0, 0},
		"scale(0)":                {0, 0, 0, 0, 0, 0},
		"scale(1)":                {one, 0, 0, one, 0, 0},
		"rotate(0)":               {one, 0, 0, one, 0, 0},
		"rotate(30)":              {56713, 32703, -32703, 56713, 0, 0},
		"rotate(45)":              {46341, 46341, -46341, 46341, 0, 0},
		"rotate(90)":              {0, one, -one, 0, 0, 0},
		"rotate(180)":             {-one, 0, 0, -one, 0, 0},
		"rotate(270)":             {0, -one, one, 0, 0, 0},
		"rotate(360)":             {one, 0, 0, one, 0, 0},
		"rotate(450)":             {0, one, -one, 0, 0, 0},
		"rotate(-90)":             {0, -one, one, 0, 0, 0},
		"rotate(-45)":             {46341, -46341, 46341, 46341, 0, 0},
		"rotate(-360)":            {one, 0, 0, one, 0, 0},
		"rotate(90 3 4)":          {0, one, -one, 0, 7 * one, one},
		"rotate(180 3 4)":         {-one, 0, 0, -one, 6 * one, 8 * one},
		"rotate(0 3 4)":           {one, 0, 0, one, 0, 0},
		"rotate(-90,1,0)":         {0, -one, one, 0, one, one},
		"rotate(45 0 0)":          {46341, 46341, -46341, 46341, 0, 0},
		"rotate(45 2 0)":          {46341, 46341, -46341, 46341, 2*one - 92682, -92682},
		"matrix(1 2 3 4 5 6)":     {one, 2 * one, 3 * one, 4 * one, 5 * one, 6 * one},
		"matrix(0,0,0,0,0,0)":     {0, 0, 0, 0, 0, 0},
		"matrix(1-2-3-4-5-6)":     {one, -2 * one, -3 * one, -4 * one, -5 * one, -6 * one},
		"skewX(0)":                {one, 0, 0, one, 0, 0},
		"skewX(45)":               {one, 0, one, one, 0, 0},
		"skewX(-45)":              {one, 0, -one, one, 0, 0},
		"skewX(90)":               {one, 0, 0, one, 0, 0},
		"skewX(-90)":              {one, 0, 0, one, 0, 0},
		"skewX(135)":              {one, 0, -one, one, 0, 0},
		"skewX(180)":              {one, 0, 0, one, 0, 0},
		"skewX(270)":              {one, 0, 0, one, 0, 0},
		"skewY(0)":                {one, 0, 0, one, 0, 0},
		"skewY(45)":               {one, one, 0, one, 0, 0},
		"skewY(-45)":              {one, -one, 0, one, 0, 0},
		"skewY(90)":               {one, 0, 0, one, 0, 0},
		"skewY(225)":              {one, one, 0, one, 0, 0},
		" scale(2) ":              {2 * one, 0, 0, 2 * one, 0, 0},
		"scale( 2 )":              {2 * one, 0, 0, 2 * one, 0, 0},
		"\tscale(\n2\r,\t3 )\r\n": {2 * one, 0, 0, 3 * one, 0, 0},
	} {
		checkTransform(t, s, want)
	}
}

func TestReadTransformTurnsByTheTable(t *testing.T) {
	for degrees := -400; degrees <= 400; degrees += 5 {
		sin, cos := impl.SinOf(impl.TurnOf(degrees*one)), impl.CosOf(impl.TurnOf(degrees*one))
		s := strconv.Itoa(degrees)
		slope := impl.FixDiv(sin, cos)
		checkTransform(t, "rotate("+s+")", [6]int{cos, sin, -sin, cos, 0, 0})
		checkTransform(t, "skewX("+s+")", [6]int{one, 0, slope, one, 0, 0})
		checkTransform(t, "skewY("+s+")", [6]int{one, slope, 0, one, 0, 0})
		around, ok := mulAsTold([6]int{one, 0, 0, one, 3 * one, -7 * one}, [6]int{cos, sin, -sin, cos, 0, 0})
		if around, ok = mulAsTold(around, [6]int{one, 0, 0, one, -3 * one, 7 * one}); !ok {
			t.Fatal(degrees)
		}
		checkTransform(t, "rotate("+s+" 3 -7)", around)
	}
}

func TestReadTransformHowManyNumbers(t *testing.T) {
	counts := map[string][]int{"translate": {1, 2}, "scale": {1, 2}, "rotate": {1, 3}, "matrix": {6}, "skewX": {1}, "skewY": {1}}
	for word, told := range counts {
		for count := range 70 {
			s := word + "(" + strings.Repeat("1 ", count) + ")"
			is := false
			for _, n := range told {
				is = is || n == count
			}
			if _, ok := impl.ReadTransform(s); ok != is {
				t.Errorf("%q: %v", s, ok)
			}
			if !is {
				checkNoTransform(t, s, "scale(1) "+s, s+" scale(1)")
			}
		}
		n := strings.TrimRight(strings.Repeat("1 ", told[0]), " ")
		checkNoTransform(t, word, word+"(", word+")", word+n, word+" "+n, word+"("+n, word+n+")", "("+n+")", word+" ("+n+")", word+"\t("+n+")", word+"(,"+n+")", word+"("+n+",)",
			word+"(("+n+"))", word+"("+n+"))", word+"("+n+")(", word+"("+n+");", word+"("+n+")x", "x"+word+"("+n+")", word+"x("+n+")", word[1:]+"("+n+")", word[:len(word)-1]+"("+n+")",
			strings.ToUpper(word)+"("+n+")", strings.ToUpper(word[:1])+word[1:]+"("+n+")", word[:len(word)-1]+strings.ToUpper(word[len(word)-1:])+"s("+n+")", word+"["+n+"]",
			word+"("+n+"px)", word+"("+n+".)", word+"("+n+" a)", word+"("+n+") "+word, word+"("+n+") "+word+"(", word+"(1e1)", word+"(--1)", word+"("+n+"\v)", word+"(16777217)")
	}
	checkNoTransform(t, "skewx(1)", "skewy(1)", "SkewX(1)", "skew(1)", "SKEWX(1)", "translateX(1)", "translate3d(1)", "rotate(1 2 3 4)", "rotate(1 2)", "matrix(1 2 3 4 5)", "perspective(1)",
		"translate(1%)", "rotate(1deg)", "scale(1)\x00", "\xff", "scale(1)\u00a0scale(1)")
}

func TestReadTransformBetweenTwo(t *testing.T) {
	want := [6]int{2 * one, 0, 0, 2 * one, one, 2 * one}
	for _, b := range []string{" ", "\t", "\n", "\r", "  ", ",", ", ", " ,", " , ", "\n,\t", " \r,\n\t", ",,", " , , "} {
		checkTransform(t, "translate(1 2)"+b+"scale(2)", want)
		checkTransform(t, " translate(1 2)"+b+"scale(2) ", want)
		checkTransform(t, "translate(1 2)"+b+"scale(2)"+b+"scale(1)"+b+"rotate(0)", want)
		checkNoTransform(t, "translate(1 2)"+b+"scale(2)scale(1)", "translate(1 2)scale(2)"+b+"scale(1)", "translate(1 2)"+b+";"+b+"scale(2)")
		if strings.Contains(b, ",") {
			checkNoTransform(t, b+"scale(2)", "scale(2)"+b, b+"scale(2)"+b, "scale(1)"+b+"scale(2)"+b, b)
		}
	}
	checkNoTransform(t, "translate(1 2)scale(2)", "scale(1)scale(1)", "scale(1);scale(1)", "scale(1)\vscale(1)", "scale(1).scale(1)", "scale(1)-scale(1)")
}

func TestNothingAheadOrBehindChangesATransform(t *testing.T) {
	nothings := []string{"translate(0)", "translate(0 0)", "scale(1)", "scale(1,1)", "rotate(0)", "rotate(360)", "rotate(0 3 4)", "matrix(1 0 0 1 0 0)", "skewX(0)", "skewY(0)", "skewX(90)"}
	for _, s := range []string{"translate(3 -4)", "scale(-2.5)", "rotate(33)", "rotate(77 2 -9)", "matrix(1 -2 3 -4 5.5 -6.25)", "skewX(20)", "skewY(-70)", "scale(2) rotate(10) translate(5)"} {
		a, ok := impl.ReadTransform(s)
		if !ok || a == same {
			t.Fatal(s, a, ok)
		}
		for _, nothing := range nothings {
			checkTransform(t, nothing, sixOf(same))
			checkTransform(t, nothing+" "+s, sixOf(a))
			checkTransform(t, s+","+nothing, sixOf(a))
			checkTransform(t, nothing+"\n"+s+" , "+nothing, sixOf(a))
		}
	}
}

func TestReadTransformOnTheWay(t *testing.T) {
	checkTransform(t, "translate(65536)", [6]int{one, 0, 0, one, farthest, 0})
	checkTransform(t, "translate(0 -65536)", [6]int{one, 0, 0, one, 0, -farthest})
	checkTransform(t, "scale(65536 -65536)", [6]int{farthest, 0, 0, -farthest, 0, 0})
	checkTransform(t, "matrix(65536 65536 65536 -65536 -65536 -65536)", [6]int{farthest, farthest, farthest, -farthest, -farthest, -farthest})
	checkTransform(t, "scale(256) scale(256)", [6]int{farthest, 0, 0, farthest, 0, 0})
	checkTransform(t, "translate(65535) translate(1)", [6]int{one, 0, 0, one, farthest, 0})
	checkTransform(t, "translate(-65535) translate(65536) translate(65535)", [6]int{one, 0, 0, one, farthest, 0})
	checkTransform(t, "rotate(180 32768 0)", [6]int{-one, 0, 0, -one, farthest, 0})
	checkTransform(t, "rotate(0 65536 -65536)", sixOf(same))
	// Moved and turned alone it is good, turned and moved back alone it would not be.
	checkTransform(t, "rotate(45 65536 65536)", [6]int{46341, 46341, -46341, 46341, farthest, farthest - 2*impl.FixMul(46341, farthest)})
	checkNoTransform(t, "translate(65536.000016)", "translate(65537)", "translate(0 65537)", "translate(-65537)", "scale(65537)", "scale(1 -65537)", "matrix(1 0 0 1 0 65537)",
		"matrix(65537 0 0 0 0 0)", "matrix(0 65537 0 0 0 0)", "matrix(0 0 65537 0 0 0)", "matrix(0 0 0 65537 0 0)", "matrix(0 0 0 0 65537 0)",
		"scale(256) scale(256.1)", "scale(256) scale(256) scale(2)", "scale(300) scale(300) scale(.001)", "scale(300) scale(300)", "translate(65536) translate(1)",
		"translate(65536) translate(1) translate(-1)", "translate(65537) translate(-1)", "scale(0) translate(65537)", "translate(65537) scale(0)", "rotate(180 32769 0)", "rotate(180 0 -32769)",
		"rotate(0 65537 0)", "rotate(0 0 65537)", "rotate(360 -65537 0)", "scale(2) rotate(180 32768 0)", "scale(1) scale(1) scale(1) translate(65537)")
}

var transformAsTold = regexp.MustCompile(`(?s)^(?:([a-zA-Z]+)\(([^()]*)\))(?:$|[\t\n\r ,]+([a-zA-Z].*)$)`)

// sixAsTold is told as square tables, each transform as a product of the plainest ones.
func sixAsTold(word string, n []int) ([][6]int, bool) {
	sin, cos, count := 0, 0, len(n)
	if count > 0 {
		sin, cos = impl.SinOf(impl.TurnOf(n[0])), impl.CosOf(impl.TurnOf(n[0]))
	}
	turn := [6]int{cos, sin, -sin, cos, 0, 0}
	switch word + strconv.Itoa(count) {
	case "translate1":
		return [][6]int{{one, 0, 0, one, n[0], 0}}, true
	case "translate2":
		return [][6]int{{one, 0, 0, one, n[0], n[1]}}, true
	case "scale1":
		return [][6]int{{n[0], 0, 0, n[0], 0, 0}}, true
	case "scale2":
		return [][6]int{{n[0], 0, 0, n[1], 0, 0}}, true
	case "rotate1":
		return [][6]int{turn}, true
	case "rotate3":
		return [][6]int{{one, 0, 0, one, n[1], n[2]}, turn, {one, 0, 0, one, -n[1], -n[2]}}, true
	case "matrix6":
		return [][6]int{[6]int(n)}, true
	case "skewX1":
		return [][6]int{{one, 0, impl.FixDiv(sin, cos), one, 0, 0}}, true
	case "skewY1":
		return [][6]int{{one, impl.FixDiv(sin, cos), 0, one, 0, 0}}, true
	}
	return nil, false
}

func wholeAsTold(s string) ([6]int, bool) {
	s, all := strings.Trim(s, "\t\n\r "), sixOf(same)
	for s != "" {
		m := transformAsTold.FindStringSubmatch(s)
		if m == nil {
			return [6]int{}, false
		}
		n, ok := numbersAsTold(strings.Trim(m[2], "\t\n\r "))
		row, known := sixAsTold(m[1], n)
		if !ok || !known {
			return [6]int{}, false
		}
		single := sixOf(same)
		for _, one := range row {
			if single, ok = mulAsTold(single, one); !ok {
				return [6]int{}, false
			}
		}
		if all, ok = mulAsTold(all, single); !ok {
			return [6]int{}, false
		}
		s = m[3]
	}
	return all, true
}

func someTransform(d *dice) string {
	var b strings.Builder
	for range d.below(5) {
		word := oneOf(d, "translate", "scale", "rotate", "matrix", "skewX", "skewY", "translate", "scale", "rotate", "skew")
		count := map[string][]int{"translate": {1, 2}, "scale": {1, 2}, "rotate": {1, 3}, "matrix": {6, 6}, "skewX": {1, 1}, "skewY": {1, 1}, "skew": {1, 2}}[word][d.below(2)]
		if d.below(30) == 0 {
			count = d.below(7)
		}
		b.WriteString(word + oneOf(d, "(", "(", "(", "( "))
		for k := range count {
			if k > 0 {
				b.WriteString(oneOf(d, " ", ",", ", ", " "))
			}
			b.WriteString(oneOf(d, "1", "2", "-1.5", "0", "30", "-77.7", "0.25", "300", "-4000", ".125", "45", "60000"))
		}
		b.WriteString(oneOf(d, ")", ")", ")", " )") + oneOf(d, " ", ",", " , ", "\n", " ", " ", " ", " ", " ", ""))
	}
	return strings.TrimRight(b.String(), ", ")
}

func TestReadTransformOfAnyTexts(t *testing.T) {
	d := dice(73)
	good := 0
	for range 40000 {
		s := someTransform(&d)
		if d.below(4) == 0 && s != "" {
			b := []byte(s)
			b[d.below(len(b))] = oneOf(&d, "0", "-", ".", ",", " ", "(", ")", "s", "X", "\x00", "\xff")[0]
			s = string(b)
		}
		want, ok := wholeAsTold(s)
		if !ok {
			checkNoTransform(t, s)
			continue
		}
		if good++; len(s) > impl.MaxValue {
			t.Fatal("the text is too long to be held against")
		}
		checkTransform(t, s, want)
	}
	if good < 5000 {
		t.Error("only", good, "are good")
	}
}

func TestTransformsAndViewsOfTooLongTexts(t *testing.T) {
	many := strings.Repeat("scale(1) ", 65) + "translate(12 3)"
	if len(many) != impl.MaxValue {
		t.Fatal(len(many))
	}
	checkTransform(t, many, [6]int{one, 0, 0, one, 12 * one, 3 * one})
	checkNoTransform(t, many+" ", " "+many, many+"\n", strings.Repeat("scale(1) ", 65)+"translate(12  3)", strings.Repeat(many+" ", 100))
	for _, s := range padded("scale(2)", impl.MaxValue) {
		checkTransform(t, s, [6]int{2 * one, 0, 0, 2 * one, 0, 0})
	}
	for _, s := range padded("1 2 3 4", impl.MaxValue) {
		checkView(t, s, one, 2*one, 3*one, 4*one)
	}
	for _, size := range []int{impl.MaxValue + 1, 5000} {
		checkNoTransform(t, padded("scale(2)", size)...)
		checkNoView(t, padded("1 2 3 4", size)...)
	}
}

func checkView(t *testing.T, s string, x, y, wide, high int) {
	t.Helper()
	if gx, gy, gw, gh, ok := impl.ReadView(s); gx != x || gy != y || gw != wide || gh != high || !ok {
		t.Errorf("%q: ReadView %d %d %d %d, %v; not %d %d %d %d", s, gx, gy, gw, gh, ok, x, y, wide, high)
	}
}

func checkNoView(t *testing.T, texts ...string) {
	t.Helper()
	for _, s := range texts {
		if x, y, wide, high, ok := impl.ReadView(s); x != 0 || y != 0 || wide != 0 || high != 0 || ok {
			t.Errorf("%q: ReadView %d %d %d %d, %v", s, x, y, wide, high, ok)
		}
	}
}

func TestReadView(t *testing.T) {
	checkView(t, "0 0 10 20", 0, 0, 10*one, 20*one)
	checkView(t, "-1,-2.5,3,4", -one, -2*one-one/2, 3*one, 4*one)
	checkView(t, " 1-2 .5+4\n", one, -2*one, one/2, 4*one)
	checkView(t, "5 6 .00001 .00001", 5*one, 6*one, 1, 1)
	checkView(t, "-16777216 16777216 16777216 16777216", -impl.MaxFixed, impl.MaxFixed, impl.MaxFixed, impl.MaxFixed)
	checkView(t, "\t1 , 2 , 3 , 4\r", one, 2*one, 3*one, 4*one)
	checkNoView(t, "", " ", "1", "1 2", "1 2 3", "1 2 3 4 5", "1 2 0 4", "1 2 3 0", "1 2 -3 4", "1 2 3 -4", "1 2 -0 4", "1 2 0 0", "1 2 .000007 4", "1 2 3 .000007", "1 2 -.00001 4", "1 2 3 4,", ",1 2 3 4",
		"1 2,,3 4", "1 2 3 4 a", "a", "1 2 3 4px", "1 2 3 16777217", "16777217 2 3 4", "1 2 3 4.", "none", "1;2;3;4", "1 2 3 4 5 6 7 8", strings.Repeat("1 ", impl.MaxSteps))
}
