package tests

import (
	"math"
	"slices"
	"strconv"
	"strings"
	"sync"
	"testing"
	"time"

	"loop.example/g00137/impl"
)

// someTold are values for the properties and attributes of shapes; the last ones of each are wrong.
var someTold = map[string][]string{
	"fill":             {"red", "none", "url(#a)", "url(#b)", "#48c", "rgb(10,200,30)", "inherit", "currentColor", "url(#c)", "x"},
	"stroke":           {"blue", "none", "url(#a)", "url(#b)", "white", "lime", "inherit", "x"},
	"color":            {"teal", "orange"},
	"opacity":          {".5", "1", ".8", ".25", "inherit", "x"},
	"fill-opacity":     {".5", "1", ".3", "0", "x"},
	"stroke-opacity":   {".5", "1", ".7", "x"},
	"fill-rule":        {"evenodd", "nonzero", "inherit", "x"},
	"stroke-width":     {"1", "2", ".5", "3px", "0", "64", "65"},
	"stroke-linejoin":  {"miter", "round", "bevel", "x"},
	"stroke-linecap":   {"butt", "round", "square", "x"},
	"stroke-dasharray": {"1", "2 1", "none", "1,.5,2", "0", "-1"},
	"clip-path":        {"url(#c)", "url(#d)", "none", "url(#a)", "x"},
	"visibility":       {"visible", "visible", "hidden"},
	"display":          {"inline", "inline", "none"},
	"transform":        {"translate(1 2)", "scale(.5)", "rotate(30)", "scale(2 1)", "skewX(20)", "rotate(45 3 3)", "matrix(1 .2 -.2 1 1 0)", "translate(900)", "translate(0 1019)", "x"},
}

// pick takes one of the wrong values seldom.
func pick(d *dice, l []string) string {
	if d.below(60) == 0 {
		return l[len(l)-1]
	}
	return l[d.below(len(l)-1)]
}

func someTelling(d *dice, count int) string {
	names := []string{"fill", "stroke", "color", "opacity", "fill-opacity", "stroke-opacity", "fill-rule", "stroke-width", "stroke-linejoin", "stroke-linecap", "stroke-dasharray", "clip-path", "visibility", "display", "transform"}
	out, told := "", map[string]int{}
	for range count {
		name := oneOf(d, append(names, "fill", "stroke", "transform", "clip-path")...)
		if told[name]++; told[name] == 1 {
			out += " " + name + "='" + pick(d, someTold[name]) + "'"
		}
	}
	return out
}

func someSize(d *dice) string {
	return strconv.Itoa(d.below(9)) + oneOf(d, "", ".5", ".25", ".75", "")
}

// someDrawn answers the text of one shape.
func someDrawn(d *dice, more string) string {
	size := func() string { return someSize(d) }
	switch d.below(8) {
	case 0, 1:
		return "<rect x='" + size() + "' y='" + size() + "' width='" + size() + "' height='" + size() + "' rx='" + oneOf(d, "0", "1", "2") + "'" + more + "/>"
	case 2:
		return "<circle cx='" + size() + "' cy='" + size() + "' r='" + size() + "'" + more + "/>"
	case 3:
		return "<ellipse cx='" + size() + "' cy='" + size() + "' rx='" + size() + "' ry='" + size() + "'" + more + "/>"
	case 4:
		return "<line x1='" + size() + "' y1='" + size() + "' x2='" + size() + "' y2='" + size() + "'" + more + "/>"
	case 5:
		return "<polygon points='" + size() + " " + size() + "," + size() + " " + size() + "," + size() + " " + size() + "'" + more + "/>"
	case 6:
		return "<polyline points='" + size() + " " + size() + "," + size() + " " + size() + "," + size() + " " + size() + "'" + more + "/>"
	}
	return "<path d='M" + size() + " " + size() + "L" + size() + " " + size() + "Q" + size() + " " + size() + " " + size() + " " + size() + oneOf(d, "", "z", "c1 2 3 0 4 4", "zm1 1h3v3h-3z") + "'" + more + "/>"
}

// someGroup answers texts of shapes, groups and uses, with wrong ones among them now and then.
func someGroup(d *dice, deep int) string {
	out := ""
	for range 1 + d.below(3) {
		switch k := d.below(10); {
		case k < 6 || deep == 0:
			out += someDrawn(d, someTelling(d, d.below(5))+oneOf(d, "", "", " class='k'", " style='fill:navy;stroke:gray'"))
		case k < 8:
			out += "<g" + someTelling(d, d.below(3)) + ">" + someGroup(d, deep-1) + "</g>"
		default:
			out += "<use href='#" + oneOf(d, "s", "t", "none") + "' x='" + someSize(d) + "'" + someTelling(d, d.below(2)) + "/>"
		}
	}
	return out
}

func someScene(d *dice) string {
	side := func() string { return strconv.Itoa(1+d.below(9)) + oneOf(d, "", ".5", "") }
	out := "<svg width='" + side() + "' height='" + side() + "'"
	if d.below(3) == 0 {
		out += " viewBox='" + oneOf(d, "0 0 8 8", "-1 -1 6 9", "2 0 3 5", "0 0 20 10", "0 0 .5 .5", "0 0 8 8", "x") + "'"
	}
	out += someTelling(d, d.below(2)) + ">"
	if d.below(3) == 0 {
		out += "<style>" + oneOf(d, ".k{fill:olive;stroke:red}", "rect{opacity:.5}.k{stroke-width:3!important}", "g *{fill:url(#a)}", "path,line{stroke:#08f}", "circle{clip-path:url(#d)}") + "</style>"
	}
	if d.below(2) == 0 {
		out += someRun(d, "a")
	}
	if d.below(3) == 0 {
		out += someRun(d, "b")
	}
	for _, id := range []string{"c", "d"} {
		if d.below(2) == 0 {
			out += "<clipPath id='" + id + "'>"
			for range d.below(4) {
				out += someDrawn(d, oneOf(d, "", "", " transform='"+pick(d, someTold["transform"])+"'"))
			}
			out += "</clipPath>"
		}
	}
	if d.below(2) == 0 {
		out += "<defs><g id='s'>" + someGroup(d, 0) + "</g>" + someDrawn(d, " id='t'") + "</defs>"
	}
	return out + someGroup(d, 2) + "</svg>"
}

func TestRenderAsTold(t *testing.T) {
	d := dice(137)
	codes := map[int]int{}
	painted := 0
	for range 2500 {
		s, code := checkBoth(t, someScene(&d))
		codes[code]++
		if slices.ContainsFunc(s.Pixels, func(x impl.Tint) bool { return x != impl.Tint{} }) {
			painted++
		}
	}
	if codes[impl.RenderOk] < 800 || codes[impl.RenderValue] < 100 || codes[impl.RenderFar] < 30 || codes[impl.RenderView] < 10 || painted < 600 {
		t.Error(codes, painted)
	}
}

// Texts that are cut short or changed at one place are most often none; whatever they are, they are told alike.
func TestRenderOfChangedTexts(t *testing.T) {
	d := dice(138)
	codes := map[int]int{}
	for range 150 {
		text := someScene(&d)
		for range 20 {
			k := d.below(len(text))
			changed := text[:k]
			if d.below(4) > 0 {
				changed += oneOf(&d, "", "x", "0", "9", "-", "'", ">", "<", " ", "\x00", "&", "#") + text[k+1:]
			}
			_, code := checkBoth(t, changed)
			codes[code]++
		}
	}
	if codes[impl.RenderMarks] < 100 || codes[impl.RenderOk] < 100 {
		t.Error(codes)
	}
}

// The same nodes told in other words are the same picture.
func TestRenderOfTheSameNodes(t *testing.T) {
	want, _ := checkBoth(t, svg4("<style>rect{fill:red}</style><rect width='2' height='3'/>"))
	for _, text := range []string{
		"<?xml version='1.0'?>" + svg4("<style>rect{fill:red}</style><rect width='2' height='3'/>"),
		"<svg\n\twidth = \"4\" height='4'><style>rect{fill:red}</style><rect width='2' height=\"3\"></rect ></svg>",
		svg4("<!-- a --><style><![CDATA[rect{fill:red}]]></style><!-- b --><rect width='2' height='3'/>"),
		svg4("<style>rect&#123;fill&#x3a;red}</style><rect width='&#50;' height='3'/>") + "<!-- end -->\n",
	} {
		l, first := impl.ReadMarks(text).Nodes, impl.ReadMarks(svg4("<style>rect{fill:red}</style><rect width='2' height='3'/>")).Nodes
		if !sameNodes(l, first) {
			t.Fatalf("%q: %v", text, l)
		}
		if got, _ := checkBoth(t, text); !sameSheet(got, want) {
			t.Errorf("%q: %v", text, got)
		}
	}
}

func TestRenderGivesTheSame(t *testing.T) {
	d := dice(139)
	for range 40 {
		text := someScene(&d)
		first, firstCode := impl.RenderSheet(text)
		var all sync.WaitGroup
		for range 8 {
			all.Add(1)
			go func() {
				defer all.Done()
				if s, code := impl.RenderSheet(text); code != firstCode || !sameSheet(s, first) {
					t.Errorf("%q: %v, %d; and then %v, %d", text, first, firstCode, s, code)
				}
			}()
		}
		all.Wait()
		// Changing one answer changes no other one.
		again, _ := impl.RenderSheet(text)
		for k := range again.Pixels {
			again.Pixels[k] = tint(1, 2, 3, 4)
		}
		fill(again.Pixels, tint(1, 2, 3, 4))
		if s, _ := impl.RenderSheet(text); !sameSheet(s, first) {
			t.Errorf("%q: an answer is no longer what it was", text)
		}
		file, _ := impl.Render(text)
		kept := slices.Clone(file)
		for k := range file {
			file[k]++
		}
		if b, _ := impl.Render(text); !slices.Equal(b, kept) {
			t.Errorf("%q: a file is no longer what it was", text)
		}
	}
}

func TestRenderOfAnyBytes(t *testing.T) {
	d := dice(140)
	for range 3000 {
		var b []byte
		for range d.below(60) {
			b = append(b, oneOf(&d, []byte("<svg "), []byte("width='1' "), []byte("height='1'"), []byte(">"), []byte("/>"), []byte("</svg>"), []byte("<rect/>"), []byte{byte(d.below(256))}, []byte("<use "), []byte("id='a' "), []byte("href='#a'"))...)
		}
		checkBoth(t, string(b))
	}
	for _, count := range []int{0, 1, 2999, 3000, 3001, 100000, 5000000} {
		for _, piece := range []string{" ", "<", "<g>", "<svg width='1' height='1'>", "\x00", "é", "\xff", "&#1;"} {
			text := strings.Repeat(piece, count/len(piece)+1)
			if _, code := impl.RenderSheet(text); code != impl.RenderMarks {
				t.Errorf("%d of %q: %d", count, piece, code)
			}
			if b, code := impl.Render(text); code != impl.RenderMarks || len(b) != 0 {
				t.Errorf("%d of %q: %d", count, piece, code)
			}
		}
	}
}

// Great texts end soon.
func TestRenderOfGreatTexts(t *testing.T) {
	begin := time.Now()
	selectors := strings.Repeat("a b c d *,", 100) + "*{fill:red}"
	use := strings.Repeat("<use href='#g'/>", 20)
	clip := "<clipPath id='c'>" + strings.Repeat("<circle r='9'/>", 20) + "</clipPath>"
	// A long way, each element of which is clipped.
	long := strings.ReplaceAll(longWay(29, "<g ID>"+strings.Repeat("<circle r='9' stroke='red'/>", 16)+"</g>"), "<use", "<use clip-path='url(#c)'")
	long = strings.Replace(long, "<svg", "<svg width='36' height='36'", 1)
	texts := []string{
		svg("36", "36", "<style>"+selectors+"</style><g id='g'><rect width='36' height='36' stroke='red'/></g>"+use),
		svg("36", "36", clip+"<g id='g' clip-path='url(#c)' stroke='red' stroke-width='64' stroke-linejoin='round' stroke-dasharray='1'><circle r='30'/></g>"+strings.Repeat("<use href='#g' clip-path='url(#c)'/>", 30)),
		svg("36", "36", "<linearGradient id='a' x2='9'>"+strings.Repeat("<stop/>", 8)+"</linearGradient>"+strings.Repeat("<rect width='36' height='36' fill='url(#a)' stroke='url(#a)'/>", 40)),
		strings.Replace(long, "<defs>", "<clipPath id='c'>"+strings.Repeat("<circle r='9'/>", 8)+"</clipPath><defs>", 1),
	}
	for k, text := range texts {
		if _, code := impl.Render(text); code != impl.RenderOk {
			t.Error(k, code)
		}
	}
	if took := time.Since(begin); took > 20*time.Second {
		t.Error(took)
	}
}

var anyNumbers = []int{math.MinInt, math.MinInt + 1, -1 << 40, -one, -1, 0, 1, 2, 36, 37, one, 1 << 32, 1 << 40, 1<<40 + 1, math.MaxInt - 1, math.MaxInt}

func TestViewAffineOfAnyNumbers(t *testing.T) {
	d := dice(141)
	for range 50000 {
		var n [6]int
		for k := range n {
			n[k] = oneOf(&d, anyNumbers...)
		}
		if want, ok := viewAsTold(n); ok {
			checkViewAffine(t, n, sixOf(want))
		} else {
			checkNoViewAffine(t, n)
		}
	}
}

func TestPicturesOfNothing(t *testing.T) {
	checkNoViewAffine(t, [6]int{})
	for _, l := range [][]impl.Node{nil, {}, {{}}, {elementIn(-1, "linearGradient")}} {
		for _, sheet := range [][]impl.Rule{nil, {}, {{}}, manyRules(31), make([]impl.Rule, 1000)} {
			for _, path := range [][]int{nil, {}, {-1}, {1}, {math.MaxInt}, {math.MinInt, 0}, slices.Repeat([]int{0}, 31)} {
				for _, name := range []string{"", "fill", "stroke", "color"} {
					checkNoPaint(t, l, sheet, path, name)
				}
				checkNoPartOf(t, l, sheet, path)
				checkNoPlace(t, l, path, same)
				checkNoPlace(t, l, path, impl.Affine{})
			}
			for _, k := range anyNumbers {
				checkNoRunOf(t, l, sheet, k)
			}
		}
	}
}

// Any nodes, rules and paths are answered; those that are not good with nothing.
func TestPicturesOfAnyNodes(t *testing.T) {
	d := dice(142)
	for range 4000 {
		l := someTree(&d)
		if d.below(2) == 0 {
			k := d.below(len(l))
			l[k] = impl.Node{Name: oneOf(&d, "g", "linearGradient", "stop", "", "use"), Up: oneOf(&d, append(anyNumbers, 3, 4, 5)...), Text: oneOf(&d, "", "x"), Attrs: l[k].Attrs}
		}
		sheet := someTreeSheet(&d)
		var path []int
		for range d.below(33) {
			path = append(path, oneOf(&d, d.below(len(l)), 0, d.below(len(l)+1), oneOf(&d, anyNumbers...)))
		}
		good := impl.GoodNodes(l) && len(sheet) <= 30
		elements := len(path) >= 1 && len(path) <= 30
		for _, k := range path {
			elements = elements && k >= 0 && k < len(l) && l[k].Name != ""
		}
		if !good || !elements {
			checkNoPaint(t, l, sheet, path, "fill")
			checkNoPartOf(t, l, sheet, path)
		} else if want, ok := paintValueAsTold(l, valueAsTold(l, sheet, path, "fill")); ok {
			checkPaint(t, l, sheet, path, "fill", want)
		}
		if !impl.GoodNodes(l) || !elements {
			checkNoPlace(t, l, path, same)
		} else if want, ok := placesAsTold(l, path, sixOf(same)); ok {
			checkPlace(t, l, path, same, want)
		}
		for _, k := range append(path, 0, 1) {
			if good && k >= 0 && k < len(l) && l[k].Name == "linearGradient" {
				continue
			}
			checkNoRunOf(t, l, sheet, k)
		}
	}
}

// picturesOf asks all functions that take lists, and answers what they answer.
func picturesOf(l []impl.Node, sheet []impl.Rule, path []int, k int) []any {
	place, placed := impl.PlaceOf(l, path, same)
	fill, filled := impl.PaintOf(l, sheet, path, "fill")
	stroke, stroked := impl.PaintOf(l, sheet, path, "stroke")
	part, parted := impl.PartOf(l, sheet, path)
	points, stops, spread, ok := impl.RunOf(l, sheet, k)
	return []any{place, placed, fill, filled, stroke, stroked, part, parted, len(points), len(stops), spread, ok}
}

func TestPicturesWriteIntoNothing(t *testing.T) {
	l := treeOf(t, "<svg transform='scale(2)' fill='url(#a)' opacity='.5'><linearGradient id='a' x2='4'><stop stop-color='red'/><stop offset='1'/></linearGradient><use href='#r' x='1'/><rect id='r' stroke='lime'/></svg>")
	sheet := sheetFor(t, "rect{opacity:.5;fill:inherit}stop{stop-color:blue!important}use{color:red}")
	path := []int{0, 4, 5}
	want := picturesOf(l, sheet, path, 1)
	nodes, rules := roomyNodes(l, "fill", "behind", "transform", "behind", "x", "behind", "x1", "behind", "opacity", "behind"), roomyRules(sheet)
	roomyPath := append(slices.Clone(path), 0, 0, 0)[:3]
	keptNodes, keptRules := cloneNodes(behindNodes(nodes)), cloneRules(behindRules(rules))
	got := picturesOf(nodes, rules, roomyPath, 1)
	if !slices.Equal(got, want) {
		t.Errorf("%v; not %v", got, want)
	}
	if !sameNodes(behindNodes(nodes), keptNodes) || !sameRules(behindRules(rules), keptRules) || !slices.Equal(roomyPath[:6], []int{0, 4, 5, 0, 0, 0}) {
		t.Error("what was handed in is not as it was")
	}
	if want[1] != true || want[3] != true || want[7] != true || want[11] != true {
		t.Error(want)
	}
}

func TestRunOfAnswersApart(t *testing.T) {
	l := treeOf(t, "<linearGradient x2='4'><stop stop-color='red'/><stop offset='1'/></linearGradient>")
	points, stops, _, _ := impl.RunOf(l, nil, 0)
	morePoints, moreStops, _, _ := impl.RunOf(l, nil, 0)
	for k := range points {
		points[k] = at(7, 7)
	}
	for k := range stops {
		stops[k] = stopAt(7, tint(7, 7, 7, 7))
	}
	fill(points, at(7, 7))
	fill(stops, stopAt(7, tint(7, 7, 7, 7)))
	want := goodRun{[]impl.Point{{}, at(4*one, 0)}, []impl.Stop{stopAt(0, tint(255, 0, 0, 255)), stopAt(one, tint(0, 0, 0, 255))}, impl.SpreadPad}
	if !slices.Equal(morePoints, want.points) || !slices.Equal(moreStops, want.stops) {
		t.Error(morePoints, moreStops)
	}
	checkRunOf(t, l, nil, 0, want)
}
