package tests

import (
	"math"
	"slices"
	"strconv"
	"strings"
	"testing"

	"loop.example/g00137/impl"
)

// paintValueAsTold takes good nodes and the value itself.
func paintValueAsTold(l []impl.Node, value string) (impl.Paint, bool) {
	if c, ok := colorAsTold(value); ok && len(value) <= impl.MaxValue {
		return impl.Paint{Kind: 1, Color: c}, true
	}
	s := strings.Trim(value, "\t\n\r ")
	if len(s) == 4 && strings.EqualFold(s, "none") {
		return impl.Paint{}, true
	}
	if len(s) < 6 || s[:5] != "url(#" || s[len(s)-1] != ')' {
		return impl.Paint{}, false
	}
	if k := firstWith(l, s[5:len(s)-1]); k >= 0 && l[k].Name == "linearGradient" {
		return impl.Paint{Kind: 2, Node: k}, true
	}
	return impl.Paint{}, true
}

func checkPaint(t *testing.T, l []impl.Node, sheet []impl.Rule, path []int, name string, want impl.Paint) {
	t.Helper()
	if got, ok := impl.PaintOf(l, sheet, path, name); got != want || !ok {
		t.Errorf("%.300v %v: PaintOf %q: %v, %v; not %v", l, path, name, got, ok, want)
	}
}

func checkNoPaint(t *testing.T, l []impl.Node, sheet []impl.Rule, path []int, name string) {
	t.Helper()
	if got, ok := impl.PaintOf(l, sheet, path, name); got != (impl.Paint{}) || ok {
		t.Errorf("%.300v %v: PaintOf %q: %v, %v", l, path, name, got, ok)
	}
}

func colorPaint(r, g, b int) impl.Paint {
	return impl.Paint{Kind: 1, Color: impl.Color{R: r, G: g, B: b}}
}

// painting has runs and other elements with ids, and the element 1 with the value as its fill.
func painting(value string) []impl.Node {
	return []impl.Node{
		elementIn(-1, "svg", "id", "root"),
		elementIn(0, "rect", "fill", value, "id", "r"),
		elementIn(0, "linearGradient", "id", "a"),
		elementIn(0, "linearGradient", "id", "a"),
		elementIn(0, "radialGradient", "id", "b"),
		elementIn(0, "linearGradient", "id", "b"),
		elementIn(0, "defs"),
		elementIn(6, "linearGradient", "id", "deep x)"),
		elementIn(0, "LinearGradient", "id", "c"),
		elementIn(0, "linearGradient", "id", " "),
		elementIn(0, "linearGradient", "id", ""),
	}
}

func TestPaintOfValues(t *testing.T) {
	run := func(k int) impl.Paint { return impl.Paint{Kind: 2, Node: k} }
	for value, want := range map[string]impl.Paint{
		"none": {}, "None": {}, "NONE": {}, "nOnE": {}, " none ": {}, "\tnone\n": {},
		"red": colorPaint(255, 0, 0), "ReD": colorPaint(255, 0, 0), "#123": colorPaint(17, 34, 51), "#0a0B0c": colorPaint(10, 11, 12),
		"rgb(1,2,3)": colorPaint(1, 2, 3), "rgb( 300 ,\t4, 5 )": colorPaint(255, 4, 5), " white ": colorPaint(255, 255, 255), "orange": colorPaint(255, 165, 0),
		"url(#a)": run(2), " url(#a) ": run(2), "\n\t\rurl(#a)\n": run(2), "url(#deep x))": run(7), "url(# )": run(9),
		"url(#b)": {}, "url(#c)": {}, "url(#r)": {}, "url(#root)": {}, "url(#none)": {}, "url(#A)": {}, "url(#)": {},
		"url(#a )": {}, "url(# a)": {}, "url(#a a)": {}, "url(#deep)": {}, "url(##a)": {}, "url(#a))": {},
		"": colorPaint(0, 0, 0), " ": colorPaint(0, 0, 0), "inherit": colorPaint(0, 0, 0), "currentColor": colorPaint(0, 0, 0), "CURRENTCOLOR": colorPaint(0, 0, 0),
	} {
		checkPaint(t, painting(value), nil, []int{1}, "fill", want)
		checkPaint(t, painting(value), nil, []int{0, 1}, "fill", want)
	}
	for _, value := range []string{
		"nones", "non", "no ne", "none none", "transparent", "url", "url()", "url(", "url(#a", "url (#a)", "url( #a)", "url( #a )", "url(a)", "url(\"#a\")", "url('#a')",
		"URL(#a)", "Url(#a)", "#a", "a", "url(#a) red", "red url(#a)", "url(#a);", "url#a", "(#a)", "redd", "#12", "#1234", "rgb(1,2)", "rgba(1,2,3,4)", "inherit inherit",
		"Inherit", "0", "url(#a)x", "xurl(#a)", "none\x7f", "\u00a0none", "\u212aone", "url\u00a0(#a)", "rgb (1,2,3)", "url(#a),none",
	} {
		checkNoPaint(t, painting(value), nil, []int{1}, "fill")
		checkNoPaint(t, painting(value), nil, []int{0, 1}, "fill")
	}
	long := strings.Repeat("i", 2000)
	l := painting("url(#" + long + ")")
	l[3].Attrs[0].Value = long
	checkPaint(t, l, nil, []int{1}, "fill", run(3))
}

func TestPaintOfNames(t *testing.T) {
	l := treeOf(t, "<svg><rect fill='red' stroke='lime' color='blue' stop-color='white' opacity='none'/></svg>")
	checkPaint(t, l, nil, []int{0, 1}, "fill", colorPaint(255, 0, 0))
	checkPaint(t, l, nil, []int{0, 1}, "stroke", colorPaint(0, 255, 0))
	checkPaint(t, l, nil, []int{0}, "fill", colorPaint(0, 0, 0))
	checkPaint(t, l, nil, []int{0}, "stroke", impl.Paint{})
	for _, name := range append(impl.Properties(), noProperties()...) {
		if name != "fill" && name != "stroke" {
			checkNoPaint(t, l, nil, []int{0, 1}, name)
		}
	}
	for _, name := range []string{"", "Fill", "FILL", " fill", "fill ", "Stroke", "fill-rule", "fillstroke", "f", "\x00", strings.Repeat("fill", 15)} {
		checkNoPaint(t, l, nil, []int{0, 1}, name)
	}
}

func TestPaintOfPaths(t *testing.T) {
	l := treeOf(t, "<svg fill='red' stroke='url(#a)' color='lime'><g fill='none'><rect/><rect fill='inherit' stroke='currentcolor' color='navy'/></g><linearGradient id='a' fill='x'/><g stroke='x'><rect stroke='white'/></g>text</svg>")
	checkPaint(t, l, nil, []int{0, 1, 2}, "fill", impl.Paint{})
	checkPaint(t, l, nil, []int{0, 2}, "fill", colorPaint(255, 0, 0))
	checkPaint(t, l, nil, []int{0, 3}, "fill", colorPaint(255, 0, 0))
	checkPaint(t, l, nil, []int{0, 1, 2}, "stroke", impl.Paint{Kind: 2, Node: 4})
	checkPaint(t, l, nil, []int{0, 1, 3}, "stroke", colorPaint(0, 0, 128))
	checkPaint(t, l, nil, []int{1, 2}, "stroke", impl.Paint{})
	checkNoPaint(t, l, nil, []int{0, 5}, "stroke")
	checkPaint(t, l, nil, []int{0, 5, 6}, "stroke", colorPaint(255, 255, 255))
	checkNoPaint(t, l, nil, []int{0, 5, 2}, "stroke")
	checkNoPaint(t, l, nil, []int{4}, "fill")
	sheet := sheetFor(t, "rect{fill:BLUE}#a{fill:url( #a)}g rect{stroke:url(#a) !important}")
	checkPaint(t, l, sheet, []int{0, 1, 2}, "fill", colorPaint(0, 0, 255))
	checkPaint(t, l, sheet, []int{0, 5, 6}, "stroke", impl.Paint{Kind: 2, Node: 4})
	checkNoPaint(t, l, sheet, []int{4}, "fill")
	for _, wrong := range []int{-1, 7, 8, math.MinInt, math.MaxInt} {
		checkNoPaint(t, l, nil, []int{wrong}, "fill")
		checkNoPaint(t, l, nil, []int{0, wrong, 1}, "fill")
	}
	checkNoPaint(t, l, nil, nil, "fill")
	checkPaint(t, l, nil, slices.Repeat([]int{0}, 30), "fill", colorPaint(255, 0, 0))
	checkNoPaint(t, l, nil, slices.Repeat([]int{0}, 31), "fill")
	checkPaint(t, l, manyRules(30), []int{0}, "fill", colorPaint(255, 0, 0))
	checkNoPaint(t, l, manyRules(31), []int{0}, "fill")
	for _, bad := range badTrees() {
		checkNoPaint(t, bad, nil, []int{0}, "fill")
		checkNoPaint(t, bad, nil, []int{0}, "stroke")
	}
	// A value that no sheet could tell, as it is handed in.
	checkPaint(t, l, []impl.Rule{ruleFor("rect", decl("fill", " \n NoNe\t"))}, []int{0, 2}, "fill", impl.Paint{})
	checkPaint(t, l, []impl.Rule{ruleFor("rect", decl("fill", " url(#a)\r"))}, []int{0, 2}, "fill", impl.Paint{Kind: 2, Node: 4})
	checkNoPaint(t, l, []impl.Rule{ruleFor("rect", decl("fill", ""))}, []int{0, 2}, "fill")
}

func TestPaintOfAsTold(t *testing.T) {
	d := dice(134)
	kinds := map[int]int{}
	for range 20000 {
		l := []impl.Node{elementIn(-1, "svg")}
		for range 1 + d.below(5) {
			e := elementIn(d.below(len(l)), oneOf(&d, "g", "rect", "linearGradient", "linearGradient"))
			e.Up = len(l) - 1
			for _, name := range []string{"fill", "stroke", "color", "id"} {
				if d.below(2) == 0 {
					value := oneOf(&d, "none", "red", "url(#a)", "url(#a)", "url(#b)", "inherit", "currentColor", " #12f ", "x", "", "url(#a )", "NONE", "url( #a)", "lime")
					if name == "id" {
						value = oneOf(&d, "a", "a", "b", "a ")
					}
					e.Attrs = append(e.Attrs, impl.Attr{Name: name, Value: value})
				}
			}
			l = append(l, e)
		}
		path := []int{d.below(len(l))}
		for d.below(2) == 0 {
			path = append(path, d.below(len(l)))
		}
		name := oneOf(&d, "fill", "stroke")
		want, ok := paintValueAsTold(l, valueAsTold(l, nil, path, name))
		if !ok {
			kinds[-1]++
			checkNoPaint(t, l, nil, path, name)
			continue
		}
		kinds[want.Kind]++
		checkPaint(t, l, nil, path, name, want)
	}
	for _, kind := range []int{-1, 0, 1, 2} {
		if kinds[kind] < 500 {
			t.Error(kinds)
		}
	}
}

func checkPartOf(t *testing.T, l []impl.Node, sheet []impl.Rule, path []int, want int) {
	t.Helper()
	if got, ok := impl.PartOf(l, sheet, path); got != want || !ok {
		t.Errorf("%.300v %v: PartOf %d, %v; not %d", l, path, got, ok, want)
	}
}

func checkNoPartOf(t *testing.T, l []impl.Node, sheet []impl.Rule, path []int) {
	t.Helper()
	if got, ok := impl.PartOf(l, sheet, path); got != 0 || ok {
		t.Errorf("%.300v %v: PartOf %d, %v", l, path, got, ok)
	}
}

// chainWith has one element in another, each with its opacity; an empty one has none.
func chainWith(values ...string) ([]impl.Node, []int) {
	var l []impl.Node
	var path []int
	for k, value := range values {
		e := elementIn(k-1, "g")
		if value != "" {
			e = elementIn(k-1, "g", "opacity", value)
		}
		l, path = append(l, e), append(path, k)
	}
	return l, path
}

func TestPartOf(t *testing.T) {
	for _, c := range []struct {
		values string
		want   int
	}{
		{"1", 256}, {"0", 0}, {".5", 128}, {"2", 256}, {"-1", 0}, {"0.25", 64}, {".001", 0}, {".002", 1}, {".998", 255}, {".9981", 256}, {" .5 ", 128}, {"+.5", 128},
		{"-", 256}, {"-,-", 256}, {".5,.5", 64}, {".5,-,.5", 64}, {"1,.5", 128}, {".5,1", 128}, {"0,1", 0}, {"1,0", 0}, {".5,0,.5", 0},
		// Rounded each time: 1 of 256 thinned to a half is 1 again, to less is 0.
		{".004,.5", 1}, {".004,.49", 0}, {".004,.5,.5,.5", 1}, {".5,.5,.004", 0}, {".3,.3,.3", 7}, {".3,.3", 23}, {".9,.9,.9,.9", 167},
		{".5,inherit", 64}, {".5,inherit,inherit", 32}, {"inherit", 256}, {"-,inherit", 256}, {".5,-,inherit", 128},
	} {
		values := strings.Split(c.values, ",")
		for k := range values {
			if values[k] == "-" {
				values[k] = ""
			}
		}
		l, path := chainWith(values...)
		checkPartOf(t, l, nil, path, c.want)
	}
	for _, value := range []string{"x", "1 1", "50%", "none", "currentColor", "Inherit", "1px", "1e0", ".", "-", "--1", "1.2345678", "123456789", "inherit 1", "0x1", "1,1", "1" + strings.Repeat("0", 600)} {
		for _, values := range [][]string{{value}, {value, "1"}, {"1", value}, {"0", value}, {value, "0"}, {".5", "", value, ""}} {
			l, path := chainWith(values...)
			checkNoPartOf(t, l, nil, path)
			checkNoPartOf(t, l, nil, append(path, 0))
		}
	}
	for count := 1; count <= 32; count++ {
		l, path := chainWith(".99")
		path = slices.Repeat(path, count)
		want := 256
		for range count {
			want = halfUp(float64(want*253) / 256)
		}
		if count <= 30 {
			checkPartOf(t, l, nil, path, want)
		} else {
			checkNoPartOf(t, l, nil, path)
		}
	}
}

func TestPartOfPaths(t *testing.T) {
	l := treeOf(t, "<svg opacity='.5'><g opacity='x'><rect opacity='.25'/></g><g style='opacity:.75'/>text<g class='k'/></svg>")
	checkPartOf(t, l, nil, []int{0}, 128)
	checkPartOf(t, l, nil, []int{0, 2}, 32)
	checkPartOf(t, l, nil, []int{2, 0}, 32)
	checkPartOf(t, l, nil, []int{0, 3}, 96)
	checkPartOf(t, l, nil, []int{5, 5, 5}, 256)
	checkNoPartOf(t, l, nil, []int{0, 1, 2})
	checkNoPartOf(t, l, nil, []int{1})
	sheet := sheetFor(t, "g{opacity:.125!important}.k{opacity:inherit}")
	checkPartOf(t, l, sheet, []int{0, 1, 2}, 4)
	checkPartOf(t, l, sheet, []int{0, 3}, 16)
	checkPartOf(t, l, sheet[1:], []int{0, 5}, 64)
	checkPartOf(t, l, sheetFor(t, "g{opacity:1!important}"), []int{0, 1, 2}, 32)
	checkNoPartOf(t, l, sheetFor(t, "g{opacity:red!important}"), []int{0, 3})
	for _, wrong := range []int{-1, 4, 6, 100, math.MinInt, math.MaxInt} {
		checkNoPartOf(t, l, nil, []int{wrong})
		checkNoPartOf(t, l, nil, []int{0, wrong})
	}
	checkNoPartOf(t, l, nil, nil)
	checkPartOf(t, l, manyRules(30), []int{0}, 128)
	checkNoPartOf(t, l, manyRules(31), []int{0})
	for _, bad := range badTrees() {
		checkNoPartOf(t, bad, nil, []int{0})
	}
}

func TestPartOfAsTold(t *testing.T) {
	d := dice(135)
	for range 5000 {
		var values []string
		for range 1 + d.below(9) {
			values = append(values, oneOf(&d, "", "1", "inherit", "."+strconv.Itoa(1000+d.below(9000))))
		}
		l, path := chainWith(values...)
		want := 256
		for k := range path {
			part, ok := impl.ReadPart(valueAsTold(l, nil, path[:k+1], "opacity"))
			if !ok {
				t.Fatal(values)
			}
			want = halfUp(float64(want*part) / 256)
		}
		checkPartOf(t, l, nil, path, want)
	}
}

// A goodRun is what RunOf answers beside true.
type goodRun struct {
	points []impl.Point
	stops  []impl.Stop
	spread int
}

func checkRunOf(t *testing.T, l []impl.Node, sheet []impl.Rule, k int, want goodRun) {
	t.Helper()
	points, stops, spread, ok := impl.RunOf(l, sheet, k)
	if !ok || !slices.Equal(points, want.points) || !slices.Equal(stops, want.stops) || spread != want.spread {
		t.Errorf("%.300v %d: RunOf %v, %v, %d, %v; not %v", l, k, points, stops, spread, ok, want)
	}
	if !impl.StopsGood(stops) {
		t.Errorf("%.300v %d: no stops: %v", l, k, stops)
	}
}

func checkNoRunOf(t *testing.T, l []impl.Node, sheet []impl.Rule, k int) {
	t.Helper()
	points, stops, spread, ok := impl.RunOf(l, sheet, k)
	if ok || len(points) != 0 || len(stops) != 0 || spread != 0 {
		t.Errorf("%.300v %d: RunOf %v, %v, %d, %v", l, k, points, stops, spread, ok)
	}
}

func nodesOfRun(t *testing.T, attrs, inside string) []impl.Node {
	t.Helper()
	return treeOf(t, "<linearGradient "+attrs+">"+inside+"</linearGradient>")
}

var nowhere = []impl.Point{{}, {}}

func TestRunOfPoints(t *testing.T) {
	black := []impl.Stop{stopAt(0, tint(0, 0, 0, 255))}
	for _, c := range []struct {
		attrs string
		want  [4]int
	}{
		{"", [4]int{}}, {"x1='1'", [4]int{one, 0, 0, 0}}, {"y1='1'", [4]int{0, one, 0, 0}}, {"x2='1'", [4]int{0, 0, one, 0}}, {"y2='1'", [4]int{0, 0, 0, one}},
		{"x1='1' y1='-2' x2='3px' y2=' .5 '", [4]int{one, -2 * one, 3 * one, one / 2}}, {"y2='1in' x2='1pc' cx='x' x='x'", [4]int{0, 0, 16 * one, 96 * one}},
		{"x1='16777216' y1='-16777216' x2='100000'", [4]int{impl.MaxFixed, -impl.MaxFixed, 100000 * one, 0}},
	} {
		want := []impl.Point{at(c.want[0], c.want[1]), at(c.want[2], c.want[3])}
		checkRunOf(t, nodesOfRun(t, c.attrs, "<stop/>"), nil, 0, goodRun{want, black, impl.SpreadPad})
	}
	for _, name := range []string{"x1", "y1", "x2", "y2"} {
		for _, value := range []string{"", " ", "x", "100%", "1 1", "none", "inherit", "16777217", "-16777217", "1em", strings.Repeat(" ", 600) + "1"} {
			checkNoRunOf(t, nodesOfRun(t, name+"='"+value+"'", "<stop/>"), nil, 0)
		}
	}
}

func TestRunOfSpreads(t *testing.T) {
	black := []impl.Stop{stopAt(0, tint(0, 0, 0, 255))}
	for value, want := range map[string]int{"repeat": impl.SpreadRepeat, "reflect": impl.SpreadMirror, "pad": impl.SpreadPad, "": impl.SpreadPad, "Repeat": impl.SpreadPad, "REFLECT": impl.SpreadPad, "mirror": impl.SpreadPad, "none": impl.SpreadPad, "repeat repeat": impl.SpreadPad, "reflection": impl.SpreadPad, "2": impl.SpreadPad} {
		checkRunOf(t, nodesOfRun(t, "spreadMethod='"+value+"'", "<stop/>"), nil, 0, goodRun{nowhere, black, want})
	}
	checkRunOf(t, nodesOfRun(t, "spreadmethod='repeat' style='spreadMethod:repeat' spread='repeat'", "<stop/>"), nil, 0, goodRun{nowhere, black, impl.SpreadPad})
}

func TestRunOfStops(t *testing.T) {
	for _, c := range []struct {
		inside string
		places []int
	}{
		{"<stop/>", []int{0}}, {"<stop offset='.5'/>", []int{one / 2}}, {"<stop offset='1'/>", []int{one}}, {"<stop offset='2'/>", []int{one}}, {"<stop offset='-1'/>", []int{0}},
		{"<stop offset=' .25\n'/>", []int{one / 4}}, {"<stop offset=''/>", []int{0}}, {"<stop offset=' '/>", []int{0}},
		{"<stop offset='.5'/><stop offset='.25'/><stop offset='.75'/>", []int{one / 2, one / 2, 3 * one / 4}},
		{"<stop offset='9'/><stop offset='-9'/><stop/>", []int{one, one, one}},
		{"<stop offset='-9'/><stop offset='.5'/><stop/><stop offset='.6'/>", []int{0, one / 2, one / 2, 39322}},
		{"<stop style='offset:.5'/>", []int{one / 2}}, {"<stop offset='x' style='offset:1'/>", []int{one}}, {"<stop offset='x' style='offset:.5' class='k'/>", []int{one / 2}},
		{"text<stop/>text<g><stop offset='x'/></g><stop offset='1'><stop offset='x'/></stop><Stop/><!-- -->", []int{0, one}},
		{strings.Repeat("<stop/>", 8), make([]int, 8)},
	} {
		want := goodRun{points: nowhere, spread: impl.SpreadPad}
		for _, place := range c.places {
			want.stops = append(want.stops, stopAt(place, tint(0, 0, 0, 255)))
		}
		checkRunOf(t, nodesOfRun(t, "", c.inside), nil, 0, want)
	}
	for _, inside := range []string{
		"", "text", "<g><stop/></g>", "<Stop/>", "<stops/>", strings.Repeat("<stop/>", 9), strings.Repeat("<stop/>", 40), "<stop offset='x'/>", "<stop offset='50%'/>", "<stop offset='inherit'/>",
		"<stop/><stop offset='1px'/>", "<stop offset='1 '/><stop offset='. 1'/>", "<stop offset='16777217'/>", "<stop offset='123456789'/>", "<stop style='offset:x'/>", "<stop offset='none'/>",
		"<stop stop-color='none'/>", "<stop stop-color='x'/>", "<stop stop-color='currentColor'/>", "<stop stop-color='inherit'/>", "<stop stop-color='url(#a)'/>", "<stop/><stop stop-color='#12'/>", "<stop style='stop-color:x' stop-color='red'/>",
	} {
		checkNoRunOf(t, nodesOfRun(t, "", inside), nil, 0)
	}
}

func TestRunOfColors(t *testing.T) {
	sheet := sheetFor(t, "stop{stop-color:lime}.k{stop-color:blue;offset:.5}#i{stop-color:x}.n{stop-color:white!important}linearGradient{stop-color:teal;offset:1}")
	for s, want := range map[string]impl.Stop{
		"<stop/>":                  stopAt(0, tint(0, 255, 0, 255)),
		"<stop stop-color='red'/>": stopAt(0, tint(0, 255, 0, 255)),
		"<stop class='k'/>":        stopAt(one/2, tint(0, 0, 255, 255)),
		"<stop class='k' style='stop-color:#102030'/>":                     stopAt(one/2, tint(16, 32, 48, 255)),
		"<stop class='k n' style='stop-color:#102030'/>":                   stopAt(one/2, tint(255, 255, 255, 255)),
		"<stop id='i' class='n' offset='1'/>":                              stopAt(one, tint(255, 255, 255, 255)),
		"<stop style='stop-color: rgb(1,2,3) ; offset: .25 ' offset='1'/>": stopAt(one/4, tint(1, 2, 3, 255)),
	} {
		checkRunOf(t, nodesOfRun(t, "color='red' fill='red'", s), sheet, 0, goodRun{nowhere, []impl.Stop{want}, impl.SpreadPad})
	}
	checkNoRunOf(t, nodesOfRun(t, "", "<stop id='i'/>"), sheet, 0)
	for s, want := range map[string]impl.Stop{
		"<stop/>": stopAt(0, tint(0, 0, 0, 255)), "<stop stop-color='red'/>": stopAt(0, tint(255, 0, 0, 255)), "<stop stop-color=' Silver '/>": stopAt(0, tint(192, 192, 192, 255)),
		"<stop stop-color='#fff' opacity='0' stop-opacity='0'/>": stopAt(0, tint(255, 255, 255, 255)), "<stop stop-color='' color='red'/>": stopAt(0, tint(0, 0, 0, 255)),
	} {
		checkRunOf(t, nodesOfRun(t, "stop-color='red' offset='1'", s), nil, 0, goodRun{nowhere, []impl.Stop{want}, impl.SpreadPad})
	}
	// A place with blanks around, as no sheet could tell it.
	blank := []impl.Rule{ruleFor("stop", decl("offset", " \t.5\n "), decl("stop-color", " red "))}
	checkRunOf(t, nodesOfRun(t, "", "<stop/>"), blank, 0, goodRun{nowhere, []impl.Stop{stopAt(one/2, tint(255, 0, 0, 255))}, impl.SpreadPad})
	checkNoRunOf(t, nodesOfRun(t, "", "<stop/>"), []impl.Rule{ruleFor("stop", decl("offset", ""))}, 0)
}

func TestRunOfElements(t *testing.T) {
	l := treeOf(t, "<svg><stop/><linearGradient x2='1'>text<stop stop-color='red'/></linearGradient><radialGradient><stop/></radialGradient><defs><linearGradient><stop/></linearGradient></defs><LinearGradient><stop/></LinearGradient><g><stop/></g></svg>")
	for k := -3; k < 20; k++ {
		switch k {
		case 2:
			checkRunOf(t, l, nil, k, goodRun{[]impl.Point{{}, at(one, 0)}, []impl.Stop{stopAt(0, tint(255, 0, 0, 255))}, impl.SpreadPad})
		case 8:
			checkRunOf(t, l, nil, k, goodRun{nowhere, []impl.Stop{stopAt(0, tint(0, 0, 0, 255))}, impl.SpreadPad})
		default:
			checkNoRunOf(t, l, nil, k)
		}
	}
	for _, k := range []int{math.MinInt, math.MaxInt, 1 << 32, -1 << 62} {
		checkNoRunOf(t, l, nil, k)
	}
	checkRunOf(t, l, manyRules(30), 8, goodRun{nowhere, []impl.Stop{stopAt(0, tint(0, 0, 0, 255))}, impl.SpreadPad})
	checkNoRunOf(t, l, manyRules(31), 8)
	for _, bad := range badTrees() {
		for k := range bad {
			if k < 70 {
				bad[k].Name = strings.ReplaceAll(bad[k].Name, "g", "linearGradient")
			}
		}
		checkNoRunOf(t, bad, nil, 0)
	}
}

// runsAsTold takes good nodes and an element linearGradient of them.
func runsAsTold(l []impl.Node, sheet []impl.Rule, k int) (goodRun, bool) {
	var n [4]int
	for i, name := range []string{"x1", "y1", "x2", "y2"} {
		if s, there := impl.AttrOf(l[k], name); there {
			length, ok := lengthAsTold(s)
			if !ok || len(s) > impl.MaxValue {
				return goodRun{}, false
			}
			n[i] = length
		}
	}
	r := goodRun{[]impl.Point{at(n[0], n[1]), at(n[2], n[3])}, nil, impl.SpreadPad}
	spread, _ := impl.AttrOf(l[k], "spreadMethod")
	if i := slices.Index([]string{"", "", "repeat", "reflect"}, spread); i >= 2 {
		r.spread = i
	}
	for i, e := range l {
		if e.Up != k || e.Name != "stop" {
			continue
		}
		place, said := ownAsTold(l, sheet, i, "offset")
		if !said {
			place = "0"
		}
		color, said := ownAsTold(l, sheet, i, "stop-color")
		if !said {
			color = "black"
		}
		number, ok := impl.ReadFixed(strings.Trim(place, "\t\n\r "))
		c, colored := colorAsTold(color)
		if !ok || !colored {
			return goodRun{}, false
		}
		at := max(0, min(one, number))
		if last := len(r.stops) - 1; last >= 0 {
			at = max(at, r.stops[last].At)
		}
		r.stops = append(r.stops, stopAt(at, tint(c.R, c.G, c.B, 255)))
	}
	return r, len(r.stops) >= 1 && len(r.stops) <= 8
}

// someRun answers the text of a linearGradient that is mostly good.
func someRun(d *dice, id string) string {
	out := "<linearGradient id='" + id + "'"
	for _, name := range []string{"x1", "y1", "x2", "y2"} {
		if d.below(2) == 0 {
			out += " " + name + "='" + oneOf(d, "1", "5", "-3.25", "12", "8px", "0", "1mm", oneOf(d, "4", "4", "4", "x", "1000", "2000")) + "'"
		}
	}
	if d.below(2) == 0 {
		out += " spreadMethod='" + oneOf(d, "pad", "repeat", "reflect", "x") + "'"
	}
	out += ">"
	for range oneOf(d, 1, 2, 2, 3, 3, 4, 8, d.below(10)) {
		out += "<stop offset='" + oneOf(d, "0", "1", ".5", ".25", ".8", "-1", "2", "") + "'"
		if d.below(3) > 0 {
			out += " stop-color='" + oneOf(d, "red", "lime", "blue", "white", "#123456", oneOf(d, "teal", "teal", "teal", "teal", "teal", "x")) + "'"
		}
		if d.below(6) == 0 {
			out += " style='" + oneOf(d, "offset:.3", "stop-color:navy", "stop-color:#eee;offset:.6") + "'"
		}
		out += "/>"
		if d.below(12) == 0 {
			out += oneOf(d, "<g><stop/></g>", "text", "<set/>")
		}
	}
	return out + "</linearGradient>"
}

func TestRunOfAsTold(t *testing.T) {
	d := dice(136)
	good, bad := 0, 0
	for range 6000 {
		l := treeOf(t, "<svg>"+someRun(&d, "a")+"</svg>")
		sheet := oneOf(&d, nil, sheetFor(t, "stop{stop-color:gray}"), sheetFor(t, "svg stop{offset:.4}*{stop-color:olive}"))
		want, ok := runsAsTold(l, sheet, 1)
		if !ok {
			bad++
			checkNoRunOf(t, l, sheet, 1)
			continue
		}
		good++
		checkRunOf(t, l, sheet, 1, want)
	}
	if good < 2000 || bad < 300 {
		t.Error(good, bad)
	}
}
