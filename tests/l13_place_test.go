package tests

import (
	"math"
	"math/big"
	"slices"
	"strings"
	"testing"

	"loop.example/g00137/impl"
)

// viewAsTold works with numbers of any size; its rounding is that of chapter 1.
func viewAsTold(n [6]int) (impl.Affine, bool) {
	for k, x := range n {
		if k < 2 && (x < 1 || x > 36) || k >= 2 && !impl.GoodFixed(x) || k >= 4 && x <= 0 {
			return impl.Affine{}, false
		}
	}
	s := nearestCut(times(n[0]*one, one), whole(n[4]))
	s = min(s, nearestCut(times(n[1]*one, one), whole(n[5])))
	mul := func(a int) int { return nearestCut(times(a, s), whole(one)) }
	place := func(side, from, size int) int {
		return downAsTold(new(big.Int).Sub(whole(side*one), whole(mul(size))), 2) - mul(from)
	}
	six := [6]int{s, 0, 0, s, place(n[0], n[2], n[4]), place(n[1], n[3], n[5])}
	return affine(six), goodAsTold(six)
}

func checkViewAffine(t *testing.T, n [6]int, want [6]int) {
	t.Helper()
	if got, ok := impl.ViewAffine(n[0], n[1], n[2], n[3], n[4], n[5]); got != affine(want) || !ok {
		t.Errorf("%v: ViewAffine %v, %v; not %v", n, got, ok, want)
	}
}

func checkNoViewAffine(t *testing.T, n [6]int) {
	t.Helper()
	if got, ok := impl.ViewAffine(n[0], n[1], n[2], n[3], n[4], n[5]); got != (impl.Affine{}) || ok {
		t.Errorf("%v: ViewAffine %v, %v", n, got, ok)
	}
}

func TestViewAffine(t *testing.T) {
	checkViewAffine(t, [6]int{2, 2, 0, 0, 4 * one, 4 * one}, [6]int{one / 2, 0, 0, one / 2, 0, 0})
	checkViewAffine(t, [6]int{1, 1, 0, 0, one, one}, sixOf(same))
	checkViewAffine(t, [6]int{36, 36, 0, 0, 36 * one, 36 * one}, sixOf(same))
	checkViewAffine(t, [6]int{36, 36, 0, 0, one, one}, [6]int{36 * one, 0, 0, 36 * one, 0, 0})
	checkViewAffine(t, [6]int{36, 1, 0, 0, one, one}, [6]int{one, 0, 0, one, 35 * one / 2, 0})
	checkViewAffine(t, [6]int{1, 36, 0, 0, one, one}, [6]int{one, 0, 0, one, 0, 35 * one / 2})
	checkViewAffine(t, [6]int{10, 20, 3 * one, -one, 5 * one, 4 * one}, [6]int{2 * one, 0, 0, 2 * one, -6 * one, 8 * one})
	checkViewAffine(t, [6]int{20, 10, 3 * one, -one, 5 * one, 4 * one}, [6]int{5 * one / 2, 0, 0, 5 * one / 2, 15*one/4 - 15*one/2, 5 * one / 2})
	// What is left over is halved down: an odd part more on the right, also below 0.
	checkViewAffine(t, [6]int{1, 1, 0, 0, 3, one}, [6]int{one, 0, 0, one, (one - 3) / 2, 0})
	checkViewAffine(t, [6]int{1, 1, 0, 0, 6 * one, 6 * one}, [6]int{10923, 0, 0, 10923, -1, -1})
	checkViewAffine(t, [6]int{1, 1, one, 2 * one, 6 * one, 6 * one}, [6]int{10923, 0, 0, 10923, -10924, -21847})
	// The scale may be 0 where the view is great.
	checkViewAffine(t, [6]int{1, 36, impl.MaxFixed, -impl.MaxFixed, impl.MaxFixed, impl.MaxFixed}, [6]int{0, 0, 0, 0, one / 2, 18 * one})
	checkViewAffine(t, [6]int{1, 1, 0, 0, 1, impl.MaxFixed}, [6]int{0, 0, 0, 0, one / 2, one / 2})
}

func TestViewAffineOfWrong(t *testing.T) {
	good := [6]int{3, 4, 5 * one, -6 * one, 7 * one, 8 * one}
	if _, ok := viewAsTold(good); !ok {
		t.Fatal(good)
	}
	for k := range good {
		wrong := noFixed
		if k < 2 {
			wrong = append(slices.Clone(badSides), noFixed...)
		}
		if k >= 4 {
			wrong = append(slices.Clone(noFixed), 0, -1, -one, -impl.MaxFixed)
		}
		for _, x := range wrong {
			n := good
			n[k] = x
			checkNoViewAffine(t, n)
			for i := range n {
				n[i] = x
			}
			checkNoViewAffine(t, n)
		}
	}
}

// The answer itself must be good: its scale, and both moves, just at the edge and one beyond it.
func TestViewAffineOfFar(t *testing.T) {
	// A scale of 65536 at a view of one part of One.
	checkViewAffine(t, [6]int{1, 1, 0, 0, 1, 1}, [6]int{farthest, 0, 0, farthest, 0, 0})
	checkNoViewAffine(t, [6]int{2, 2, 0, 0, 1, 1})
	checkNoViewAffine(t, [6]int{36, 36, 0, 0, 1, 1})
	checkNoViewAffine(t, [6]int{1, 1, 2 * one, 0, 1, 1})
	checkViewAffine(t, [6]int{1, 1, one, -one, 1, 1}, [6]int{farthest, 0, 0, farthest, -farthest, farthest})
	checkNoViewAffine(t, [6]int{1, 1, one + 1, -one, 1, 1})
	checkNoViewAffine(t, [6]int{1, 1, one, -one - 1, 1, 1})
	for _, x := range []int{farthest, -farthest} {
		checkViewAffine(t, [6]int{1, 1, x, x, one, one}, [6]int{one, 0, 0, one, -x, -x})
		checkNoViewAffine(t, [6]int{1, 1, x + x/farthest, 0, one, one})
		checkNoViewAffine(t, [6]int{1, 1, 0, x + x/farthest, one, one})
		checkNoViewAffine(t, [6]int{1, 1, 256 * x, 0, one, one})
	}
}

func TestViewAffineAsTold(t *testing.T) {
	d := dice(132)
	good := 0
	for range 60000 {
		n := [6]int{1 + d.below(36), oneOf(&d, 1, 36, 1+d.below(36)), someNumber(&d), someNumber(&d), 1 + d.below(oneOf(&d, 3, one, 40*one, impl.MaxFixed)), 1 + d.below(oneOf(&d, 3, one, 40*one, impl.MaxFixed))}
		if d.below(8) == 0 {
			n[d.below(6)] = oneOf(&d, append(noFixed, 0, -1, impl.MaxFixed, -impl.MaxFixed, 37)...)
		}
		want, ok := viewAsTold(n)
		if !ok {
			checkNoViewAffine(t, n)
			continue
		}
		good++
		checkViewAffine(t, n, sixOf(want))
	}
	if good < 15000 {
		t.Error("good ones:", good)
	}
}

// placesAsTold takes good nodes and elements of them.
func placesAsTold(l []impl.Node, path []int, first [6]int) ([6]int, bool) {
	all, ok := first, goodAsTold(first)
	for _, k := range path {
		if s, there := impl.AttrOf(l[k], "transform"); there {
			six, read := wholeAsTold(s)
			ok = ok && read && len(s) <= impl.MaxValue
			all, _ = mulOrNot(&ok, all, six)
		}
		if l[k].Name == "use" {
			six := sixOf(same)
			for i, name := range []string{"x", "y"} {
				if s, there := impl.AttrOf(l[k], name); there {
					length, read := lengthAsTold(s)
					ok = ok && read && len(s) <= impl.MaxValue
					six[4+i] = length
				}
			}
			all, _ = mulOrNot(&ok, all, six)
		}
	}
	if !ok {
		return [6]int{}, false
	}
	return all, true
}

func mulOrNot(ok *bool, a, b [6]int) ([6]int, bool) {
	n, good := mulAsTold(a, b)
	*ok = *ok && good
	return n, good
}

func checkPlace(t *testing.T, l []impl.Node, path []int, first impl.Affine, want [6]int) {
	t.Helper()
	if got, ok := impl.PlaceOf(l, path, first); got != affine(want) || !ok {
		t.Errorf("%.300v %v %v: PlaceOf %v, %v; not %v", l, path, first, got, ok, want)
	}
}

func checkNoPlace(t *testing.T, l []impl.Node, path []int, first impl.Affine) {
	t.Helper()
	if got, ok := impl.PlaceOf(l, path, first); got != (impl.Affine{}) || ok {
		t.Errorf("%.300v %v %v: PlaceOf %v, %v", l, path, first, got, ok)
	}
}

// placeIn takes the text of the one element in an svg.
func placeIn(t *testing.T, s string) ([]impl.Node, []int) {
	t.Helper()
	return treeOf(t, "<svg>"+s+"</svg>"), []int{0, 1}
}

func TestPlaceOfTransforms(t *testing.T) {
	double := affine([6]int{2 * one, 0, 0, 2 * one, 7, 9})
	for s, want := range map[string][6]int{
		"<g/>":                                    {2 * one, 0, 0, 2 * one, 7, 9},
		"<g transform=''/>":                       {2 * one, 0, 0, 2 * one, 7, 9},
		"<g transform=' '/>":                      {2 * one, 0, 0, 2 * one, 7, 9},
		"<g transform='translate(3 4)'/>":         {2 * one, 0, 0, 2 * one, 6*one + 7, 8*one + 9},
		"<g transform='scale(3)'/>":               {6 * one, 0, 0, 6 * one, 7, 9},
		"<g transform='matrix(1 2 3 4 5 6)'/>":    {2 * one, 4 * one, 6 * one, 8 * one, 10*one + 7, 12*one + 9},
		"<g transform='scale(3) translate(1)'/>":  {6 * one, 0, 0, 6 * one, 6*one + 7, 9},
		"<g transform='translate(1) scale(3)'/>":  {6 * one, 0, 0, 6 * one, 2*one + 7, 9},
		"<use/>":                                  {2 * one, 0, 0, 2 * one, 7, 9},
		"<use x='3'/>":                            {2 * one, 0, 0, 2 * one, 6*one + 7, 9},
		"<use y='3'/>":                            {2 * one, 0, 0, 2 * one, 7, 6*one + 9},
		"<use x='1px' y=' -1in '/>":               {2 * one, 0, 0, 2 * one, 2*one + 7, -192*one + 9},
		"<use x='1' y='2' transform='scale(3)'/>": {6 * one, 0, 0, 6 * one, 6*one + 7, 12*one + 9},
		"<use transform='scale(0)' x='1' y='2'/>": {0, 0, 0, 0, 7, 9},
		"<g x='1' y='2'/>":                        {2 * one, 0, 0, 2 * one, 7, 9},
		"<svg x='1' y='nonsense'/>":               {2 * one, 0, 0, 2 * one, 7, 9},
		"<rect x='nonsense' y='2'/>":              {2 * one, 0, 0, 2 * one, 7, 9},
		"<other transform='translate(1)'/>":       {2 * one, 0, 0, 2 * one, 2*one + 7, 9},
		"<g Transform='scale(3)' gradientTransform='scale(4)' style='transform:scale(5)'/>": {2 * one, 0, 0, 2 * one, 7, 9},
	} {
		l, path := placeIn(t, s)
		checkPlace(t, l, path, double, want)
		checkPlace(t, l, path[1:], double, want)
	}
}

func TestPlaceOfWrongValues(t *testing.T) {
	for _, s := range []string{
		"<g transform='x'/>", "<g transform='none'/>", "<g transform='scale()'/>", "<g transform='scale(1'/>", "<g transform='inherit'/>",
		"<use transform='x' x='1' y='1'/>", "<use x='x'/>", "<use y='x'/>", "<use x='' y='1'/>", "<use x='1' y=''/>", "<use x='1%'/>", "<use y='1em'/>", "<use x='1 1'/>",
		"<use x='16777217'/>", "<use y='-16777217'/>", "<use x='65537'/>", "<use y='-65537'/>", "<g transform='translate(65537)'/>", "<g transform='scale(65537)'/>",
		"<g transform='" + strings.Repeat(" ", impl.MaxValue+1) + "'/>", "<use x='1" + strings.Repeat(" ", impl.MaxValue) + "'/>",
	} {
		l, path := placeIn(t, s)
		checkNoPlace(t, l, path, same)
		checkNoPlace(t, l, path[1:], same)
		checkNoPlace(t, l, []int{1, 0}, same)
		checkPlace(t, l, path[:1], same, sixOf(same))
	}
	for _, s := range []string{"<g transform='translate(65536 -65536)'/>", "<use x='65536' y='-65536'/>"} {
		l, path := placeIn(t, s)
		checkPlace(t, l, path, same, [6]int{one, 0, 0, one, farthest, -farthest})
		checkNoPlace(t, l, path, affine([6]int{one, 0, 0, one, 1, 0}))
		checkNoPlace(t, l, path, affine([6]int{one, 0, 0, one, 0, -1}))
		checkPlace(t, l, path, affine([6]int{one, 0, 0, one, -1, 1}), [6]int{one, 0, 0, one, farthest - 1, 1 - farthest})
		checkNoPlace(t, l, path, affine([6]int{2 * one, 0, 0, one, 0, 0}))
	}
	// A place that comes back later has been too far on the way.
	l := treeOf(t, "<svg transform='scale(256)'><g transform='scale(257)'><g transform='scale(0)'/></g></svg>")
	checkNoPlace(t, l, []int{0, 1, 2}, same)
	checkPlace(t, l, []int{0, 2, 1}, same, [6]int{})
	l = treeOf(t, "<svg transform='scale(256)'><use transform='scale(0)' x='65536'/><use transform='scale(.5)' x='512' y='511.99'/><use x='256'/><use x='257'/></svg>")
	checkPlace(t, l, []int{0, 1}, same, [6]int{})
	checkPlace(t, l, []int{0, 3}, same, [6]int{256 * one, 0, 0, 256 * one, farthest, 0})
	checkNoPlace(t, l, []int{0, 4}, same)
}

func TestPlaceOfPaths(t *testing.T) {
	l := treeOf(t, "<svg transform='scale(2)'><g transform='translate(1)'><use x='1' y='1' transform='scale(3)'/></g>text</svg>")
	checkPlace(t, l, []int{0}, same, [6]int{2 * one, 0, 0, 2 * one, 0, 0})
	checkPlace(t, l, []int{0, 1}, same, [6]int{2 * one, 0, 0, 2 * one, 2 * one, 0})
	checkPlace(t, l, []int{1, 0}, same, [6]int{2 * one, 0, 0, 2 * one, one, 0})
	checkPlace(t, l, []int{0, 1, 2}, same, [6]int{6 * one, 0, 0, 6 * one, 8 * one, 6 * one})
	checkPlace(t, l, []int{2, 2}, same, [6]int{9 * one, 0, 0, 9 * one, 12 * one, 12 * one})
	for _, wrong := range []int{-1, 3, 4, 100, math.MinInt, math.MaxInt} {
		checkNoPlace(t, l, []int{wrong}, same)
		checkNoPlace(t, l, []int{wrong, 0}, same)
		checkNoPlace(t, l, []int{0, 1, wrong}, same)
		checkNoPlace(t, l, []int{0, wrong, 1}, same)
	}
	checkNoPlace(t, l, nil, same)
	checkNoPlace(t, l, []int{}, same)
	for count := 1; count <= 40; count++ {
		path := slices.Repeat([]int{1}, count)
		if count <= 30 {
			checkPlace(t, l, path, same, [6]int{one, 0, 0, one, count * one, 0})
			continue
		}
		checkNoPlace(t, l, path, same)
	}
	checkNoPlace(t, l, slices.Repeat([]int{1}, 100000), same)
	for k := range 6 {
		for _, x := range []int{farthest + 1, -farthest - 1, impl.MaxFixed, math.MaxInt, math.MinInt} {
			n := sixOf(same)
			n[k] = x
			checkNoPlace(t, l, []int{0}, affine(n))
			checkNoPlace(t, l, []int{2}, affine(n))
		}
	}
	plain := treeOf(t, "<svg/>")
	for _, x := range []int{farthest, -farthest} {
		all := [6]int{x, x, x, x, x, x}
		checkPlace(t, plain, []int{0}, affine(all), all)
	}
}

func TestPlaceOfBadNodes(t *testing.T) {
	for _, l := range badTrees() {
		checkNoPlace(t, l, []int{0}, same)
		checkNoPlace(t, l, nil, same)
	}
}

// somePlaced answers good nodes whose transforms and uses are often none.
func somePlaced(d *dice) []impl.Node {
	l := []impl.Node{elementIn(-1, "svg", someMoves(d)...)}
	for range 1 + d.below(6) {
		up := 0
		if last := len(l) - 1; d.below(2) == 0 && l[last].Name != "" {
			up = last
		}
		if d.below(9) == 0 && (up == len(l)-1) {
			l = append(l, textIn(up, "t"))
			continue
		}
		l = append(l, elementIn(up, oneOf(d, "g", "use", "rect", "svg", "use"), someMoves(d)...))
	}
	return l
}

func someMoves(d *dice) []string {
	var l []string
	if d.below(2) == 0 {
		l = append(l, "transform", oneOf(d, someTransform(d), "", "scale(2)", "translate(1,2)", "rotate(30)", "translate(.5) scale(-1 1)"))
	}
	for _, name := range []string{"x", "y"} {
		if d.below(2) == 0 {
			l = append(l, name, oneOf(d, "1", "-2.5", "3mm", " 4 ", "", "x", "65536", "70000", "1em", "0", "100", "99pt"))
		}
	}
	return l
}

func TestPlaceOfAsTold(t *testing.T) {
	d := dice(133)
	good := 0
	for range 20000 {
		l := somePlaced(&d)
		var path []int
		elements := true
		for range 1 + d.below(5) {
			k := d.below(len(l))
			path = append(path, k)
			elements = elements && l[k].Name != ""
		}
		first := oneOf(&d, sixOf(same), [6]int{2 * one, 0, 0, 2 * one, 3, 4}, someSix(&d))
		want, ok := placesAsTold(l, path, first)
		if !ok || !elements || !impl.GoodNodes(l) {
			checkNoPlace(t, l, path, affine(first))
			continue
		}
		good++
		checkPlace(t, l, path, affine(first), want)
	}
	if good < 3000 {
		t.Error("good ones:", good)
	}
}
