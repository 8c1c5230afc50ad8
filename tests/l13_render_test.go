package tests

import (
	"bytes"
	"slices"
	"strings"
	"testing"

	"loop.example/g00137/impl"
)

// inkLetters are the tints that pictures are told with here; `?` stands for any.
var inkLetters = map[rune]impl.Tint{
	'.': {}, 'R': tint(255, 0, 0, 255), 'G': tint(0, 255, 0, 255), 'B': tint(0, 0, 255, 255), 'W': tint(255, 255, 255, 255), 'K': tint(0, 0, 0, 255),
	'r': tint(128, 0, 0, 128), 'g': tint(0, 128, 0, 128), 'b': tint(0, 0, 128, 128), 'w': tint(128, 128, 128, 128), 'k': tint(0, 0, 0, 128),
}

// checkBoth looks at what holds for every text: that RenderSheet and Render tell the same, a picture or a code, as the second telling does, and that the text of the nodes is as good.
func checkBoth(t *testing.T, text string) (impl.Sheet, int) {
	t.Helper()
	s, code := impl.RenderSheet(text)
	file, fileCode := impl.Render(text)
	if code != fileCode || code < impl.RenderOk || code > impl.RenderFar {
		t.Fatalf("%.1000q: RenderSheet tells %d, Render %d", text, code, fileCode)
	}
	if want, wantCode := renderAsTold(text); code != wantCode || !sameSheet(s, want) {
		t.Fatalf("%.1000q: %v, %d; not %v, %d", text, s, code, want, wantCode)
	}
	if code != impl.RenderOk {
		if !sameSheet(s, impl.Sheet{}) || len(file) != 0 {
			t.Fatalf("%.1000q: code %d beside %v and %d bytes", text, code, s, len(file))
		}
		return s, code
	}
	pixels, ok := impl.SheetBytes(s)
	want, encoded := impl.EncodePng(s.Wide, s.High, pixels)
	if !ok || !encoded || !bytes.Equal(file, want) {
		t.Fatalf("%.1000q: a sheet %v, bytes %v, file %v", text, ok, encoded, file)
	}
	if again, short := impl.MarksText(impl.ReadMarks(text).Nodes); short {
		if other, code := impl.RenderSheet(again); code != impl.RenderOk || !sameSheet(other, s) {
			t.Fatalf("%.1000q: the text of its nodes gives %v, %d", text, other, code)
		}
	}
	return s, code
}

// checkRender takes the picture row by row.
func checkRender(t *testing.T, text string, rows ...string) {
	t.Helper()
	s, code := checkBoth(t, text)
	if code != impl.RenderOk || s.High != len(rows) || s.Wide != len(rows[0]) {
		t.Errorf("%.1000q: %d by %d, code %d", text, s.Wide, s.High, code)
		return
	}
	for v, row := range rows {
		for u, letter := range row {
			if got := s.Pixels[v*s.Wide+u]; letter != '?' && got != inkLetters[letter] {
				t.Errorf("%.1000q: the pixel %d, %d is %v, not %c", text, u, v, got, letter)
			}
		}
	}
}

// checkTints takes the tints of all pixels.
func checkTints(t *testing.T, text string, want ...impl.Tint) {
	t.Helper()
	if s, code := checkBoth(t, text); code != impl.RenderOk || !slices.Equal(s.Pixels, want) {
		t.Errorf("%.1000q: %v, %d; not %v", text, s, code, want)
	}
}

func checkRenderCode(t *testing.T, want int, texts ...string) {
	t.Helper()
	for _, text := range texts {
		if _, code := checkBoth(t, text); code != want {
			t.Errorf("%.1000q: code %d, not %d", text, code, want)
		}
	}
}

// svg puts what is drawn into a root of these sides.
func svg(wide, high, inside string) string {
	return "<svg width='" + wide + "' height='" + high + "'>" + inside + "</svg>"
}

func svg4(inside string) string { return svg("4", "4", inside) }

func TestRenderMarks(t *testing.T) {
	checkRenderCode(t, impl.RenderMarks, "", " ", "x", "<", "<svg", "<svg>", "<svg></g>", "<svg width='1' height='1' width='1'/>", "<svg/>x", "<!DOCTYPE svg><svg/>", "\x00", "\xff", "<svg>&x;</svg>",
		strings.Repeat(" ", impl.MaxMarks+1), svg("1", "1", strings.Repeat(" ", impl.MaxMarks)), svg("1", "1", strings.Repeat("<g/>", impl.MaxNodes)), svg("1", "1", strings.Repeat("<g>", impl.MaxDeep)+strings.Repeat("</g>", impl.MaxDeep)))
	checkRender(t, svg("1", "1", strings.Repeat("<g/>", impl.MaxNodes-1)), ".")
	checkRender(t, svg("1", "1", strings.Repeat(" ", impl.MaxMarks-len(svg("1", "1", "")))), ".")
	checkRender(t, "<?xml version='1.0'?><!-- a --> <svg width='1' height='1'/> <!-- b -->", ".")
}

func TestRenderRoot(t *testing.T) {
	checkRenderCode(t, impl.RenderRoot, "<g/>", "<g width='1' height='1'/>", "<Svg width='1' height='1'/>", "<SVG/>", "<rect/>", "<svg:svg width='1' height='1'/>", "<g><svg width='1' height='1'/></g>", "<symbol width='1' height='1'/>", "<use/>", "<s/>")
	// Ahead of all that comes behind it.
	checkRenderCode(t, impl.RenderRoot, "<g width='x' viewBox='x'><use id='a' href='#a'/><rect x='x'/></g>")
}

func TestRenderSize(t *testing.T) {
	for _, c := range []struct {
		told string
		side int
	}{
		{"1", 1}, {"36", 36}, {".5", 1}, {"1.49999", 1}, {"1.5", 2}, {"35.5", 36}, {"36.49999", 36}, {" 7 ", 7}, {"+3", 3}, {"1px", 1}, {"1pc", 16}, {"6pt", 8}, {".25in", 24}, {".5cm", 19}, {"5mm", 19}, {"0.500001", 1}, {".49999", 0}, {"36.5", 0}, {"37", 0},
		{"0", 0}, {"-1", 0}, {"-.5", 0}, {"-36", 0}, {"16777216", 0}, {"-16777216", 0}, {"16777217", 0}, {"x", 0}, {"", 0}, {" ", 0}, {"10%", 0}, {"1em", 0}, {"1 1", 0}, {"auto", 0}, {"inherit", 0}, {"1in", 0}, {"1" + strings.Repeat(" ", 599), 1}, {"1" + strings.Repeat(" ", 600), 0},
	} {
		if c.side == 0 {
			checkRenderCode(t, impl.RenderSize, svg(c.told, "1", ""), svg("1", c.told, ""), svg(c.told, c.told, ""))
			continue
		}
		row := strings.Repeat(".", c.side)
		checkRender(t, svg(c.told, "1", ""), row)
		checkRender(t, svg("1", c.told, ""), slices.Repeat([]string{"."}, c.side)...)
		checkRender(t, svg(c.told, c.told, ""), slices.Repeat([]string{row}, c.side)...)
	}
	checkRenderCode(t, impl.RenderSize, "<svg/>", "<svg width='1'/>", "<svg height='1'/>", "<svg Width='1' height='1'/>", "<svg viewBox='0 0 1 1'/>", "<svg style='width:1;height:1'/>")
	checkRenderCode(t, impl.RenderSize, "<svg width='1' viewBox='x'><use id='a' href='#a'/></svg>", svg("0", "1", "<rect x='x'/>"), svg("37", "37", "<use id='a' href='#a'/>"))
}

// view tells a root with a viewBox.
func view(box, inside string) string {
	return "<svg width='4' height='4' viewBox='" + box + "'>" + inside + "</svg>"
}

func TestRenderView(t *testing.T) {
	checkRenderCode(t, impl.RenderView, view("", ""), view(" ", ""), view("x", ""), view("0 0 4", ""), view("0 0 4 4 4", ""), view("0 0 0 4", ""), view("0 0 4 0", ""), view("0 0 -4 4", ""), view("0 0 4 -4", ""), view("none", ""), view("0 0 4px 4", ""), view("0 0 4 4x", ""),
		view("0 0 16777217 4", ""), view("0 0 1e0 1", ""), view("0 0 4 4"+strings.Repeat(" ", 600), ""),
		// These are views, but of no good affine.
		view("0 0 .00002 .00002", ""), view("65537 0 4 4", ""), view("0 -65537 4 4", ""), view("16777216 0 4 4", ""), view("70000 0 4 4", "<use id='a' href='#a'/>"), view("x", "<rect x='x'/>"))
	full := "<rect width='100' height='100' x='-50' y='-50' fill='red'/>"
	for _, box := range []string{"0 0 4 4", "0,0,4,4", " 0 , 0 +4+4\n", "-9-9 4 4", "1 1 .5 .5"} {
		checkRender(t, view(box, full), "RRRR", "RRRR", "RRRR", "RRRR")
	}
	checkRender(t, view("0 0 4 4", "<rect width='1' height='2' fill='red'/>"), "R...", "R...", "....", "....")
	checkRender(t, view("0 0 2 2", "<rect width='1' height='2' fill='red'/>"), "RR..", "RR..", "RR..", "RR..")
	checkRender(t, view("0-1 2 2", "<rect width='1' height='2' fill='red'/>"), "....", "....", "RR..", "RR..")
	checkRender(t, view("-1 0 2 2", "<rect width='1' height='2' fill='red'/>"), "..RR", "..RR", "..RR", "..RR")
	checkRender(t, view("0 0 8 8", "<rect x='2' y='4' width='4' height='4' fill='red'/>"), "....", "....", ".RR.", ".RR.")
	// The lesser scale, in the middle.
	checkRender(t, view("0 0 2 4", "<rect width='2' height='4' fill='red'/>"), ".RR.", ".RR.", ".RR.", ".RR.")
	checkRender(t, view("0 0 8 4", "<rect width='8' height='4' fill='red'/>"), "....", "RRRR", "RRRR", "....")
	checkRender(t, view("0 0 4 2", "<rect width='8' height='4' fill='red' x='-2' y='-1'/>"), "RRRR", "RRRR", "RRRR", "RRRR")
	// Only the root's own viewBox counts, and by its own name.
	checkRender(t, svg4("<svg viewBox='0 0 1 1' x='2' width='1' height='1'><rect width='1' height='1' fill='red'/></svg>"), "R...", "....", "....", "....")
	checkRender(t, "<svg width='1' height='1' viewbox='x' style='viewBox:x'/>", ".")
}

func TestRenderCycleAndMany(t *testing.T) {
	checkRenderCode(t, impl.RenderCycle, svg4("<use id='a' href='#a'/>"), svg4("<g id='a'><use href='#a'/></g>"), svg4("<use href='#b'/><g id='a'><use href='#b'/></g><g id='b'><use href='#a'/></g>"), "<svg id='s' width='1' height='1'><use href='#s'/></svg>",
		svg4("<rect x='x'/><use id='a' href='#a'/>"), svg4(strings.Repeat("<rect/>", impl.MaxShapes)+"<use id='a' href='#a'/>"))
	checkRenderCode(t, impl.RenderMany, svg4(strings.Repeat("<rect/>", impl.MaxShapes+1)), svg4("<rect x='x'/>"+strings.Repeat("<rect/>", impl.MaxShapes)), svg4(strings.Repeat("<rect/>", impl.MaxShapes+1)+"<use id='a' href='#a'/>"),
		svg4("<g id='a'>"+strings.Repeat("<rect/>", 9)+"</g>"+strings.Repeat("<use href='#a'/>", 4)))
	checkRender(t, svg("1", "1", strings.Repeat("<rect/>", impl.MaxShapes)), ".")
	checkRender(t, svg("1", "1", "<style>use{display:none}</style><use id='a' href='#a'/>"), ".")
	checkRender(t, svg("1", "1", "<style>.k{display:none}</style><rect width='1' height='1' fill='red' class='k'/>"), ".")
	checkRender(t, svg("1", "1", "<style>rect{fill:red}</style><rect width='1' height='1'/>"), "R")
	many := strings.Replace(longWay(31, "<rect ID width='1' height='1'/>"), "<svg", "<svg width='1' height='1'", 1)
	fits := strings.Replace(longWay(30, "<rect ID width='1' height='1'/>"), "<svg", "<svg width='1' height='1'", 1)
	checkRenderCode(t, impl.RenderMany, many)
	checkRender(t, fits, "K")
}

func TestRenderVisibility(t *testing.T) {
	for _, value := range []string{"hidden", "collapse", "Visible", "VISIBLE", "x", "none", "visible visible", "currentColor", "url(#c)"} {
		for _, wrong := range []string{"x='x'", "fill='x'", "width='9999' height='1'", "transform='x'", "stroke-width='x'", "clip-path='url(#c)'", "opacity='x'", "fill='url(#a)'"} {
			wrong = strings.Replace(wrong, "url(#a)", "url(#empty)", 1)
			checkRender(t, svg("1", "1", "<clipPath id='c'><rect x='x'/></clipPath><linearGradient id='empty'/><rect "+wrong+" visibility='"+value+"'/><rect width='1' height='1' fill='red'/>"), "R")
			checkRender(t, svg("1", "1", "<clipPath id='c'><rect x='x'/></clipPath><linearGradient id='empty'/><g visibility='"+value+"'><rect "+wrong+"/></g><rect width='1' height='1' fill='red'/>"), "R")
		}
	}
	checkRender(t, svg("1", "1", "<g visibility='hidden'><rect width='1' height='1' fill='red' visibility='visible'/></g>"), "R")
	checkRender(t, svg("1", "1", "<g visibility='hidden'><rect width='1' height='1' fill='red' visibility=' visible '/></g>"), "R")
	checkRender(t, svg("1", "1", "<g visibility='hidden'><rect width='1' height='1' fill='red' visibility='inherit'/></g>"), ".")
	checkRender(t, svg("1", "1", "<rect width='1' height='1' fill='red' visibility=''/>"), "R")
	checkRender(t, svg("1", "1", "<style>rect{visibility:visible!important}</style><g style='visibility:hidden'><rect width='1' height='1' fill='red'/></g>"), "R")
	checkRenderCode(t, impl.RenderValue, svg("1", "1", "<g visibility='hidden'><rect x='x' visibility='visible'/></g>"))
}

// wrongValues has for each value of a shape's list some that are none.
var wrongValues = map[string][]string{
	"transform":        {"x", "none", "inherit", "scale()", "translate(65537)"},
	"x":                {"x", "", "1%", "16777217"},
	"width":            {"-1", "x", "-.0001"},
	"rx":               {"-1", "auto"},
	"fill":             {"x", "transparent", "url(#a) red", "url( #a)", "#12", "URL(#a)"},
	"stroke":           {"x", "url(a)", "Inherit", "rgb(1,2)"},
	"opacity":          {"x", "50%", "none"},
	"fill-opacity":     {"x", "1%", "currentColor"},
	"stroke-opacity":   {"x", "1px"},
	"fill-rule":        {"x", "EvenOdd", "even", "nonzero evenodd", "none"},
	"stroke-width":     {"x", "-1", "-.0001", "64.0001", "65", "1%", "none"},
	"stroke-linejoin":  {"x", "Miter", "square", "butt", "arcs", "none", "miter round"},
	"stroke-linecap":   {"x", "Round", "bevel", "miter", "none"},
	"stroke-dasharray": {"x", "None", "NONE", "-1", "1 -1", "1024.0001", "1,,1", "1 2 3 4 5 6 7 8 9", "1 none", "1px", "1%"},
}

// goodValues are the ones at the edges that are still told.
var goodValues = map[string][]string{
	"transform":        {"", "scale(1)", "translate(0)"},
	"fill":             {"red", " red ", "inherit", "none", "url(#a)"},
	"stroke":           {"none", "NONE", "url(#a)"},
	"opacity":          {"1", "2", "1.0"},
	"fill-opacity":     {"1", "9"},
	"stroke-opacity":   {"0", "-1"},
	"fill-rule":        {"evenodd", " nonzero ", "inherit", ""},
	"stroke-width":     {"0", "64", "1px", " 3 ", "-0"},
	"stroke-linejoin":  {"miter", "round", "bevel", " miter "},
	"stroke-linecap":   {"butt", "round", "square", "\tbutt\n"},
	"stroke-dasharray": {"none", " none ", "0", "1024", "1,2", "1 2 3 4 5 6 7 8", "0 0", "1+1", ""},
}

func TestRenderValues(t *testing.T) {
	rect := func(name, value, more string) string {
		value = strings.ReplaceAll(value, "'", "")
		return svg("1", "1", "<rect height='1' "+name+"='"+value+"'"+more+"/>")
	}
	for name, values := range wrongValues {
		for _, value := range values {
			checkRenderCode(t, impl.RenderValue, rect(name, value, ""))
			if name == "transform" || name == "x" || name == "width" || name == "rx" {
				continue
			}
			// From around it, by its style and by a sheet.
			checkRenderCode(t, impl.RenderValue, svg("1", "1", "<rect style='"+name+":"+value+"'/>"), svg("1", "1", "<style>rect{"+name+":"+value+"}</style><rect/>"))
			around := svg("1", "1", "<g "+name+"='"+value+"'><rect/></g>")
			checkRenderCode(t, impl.RenderValue, around)
			checkRender(t, svg("1", "1", "<g "+name+"='"+value+"'/><defs "+name+"='"+value+"'><rect/></defs>"), ".")
		}
	}
	for name, values := range goodValues {
		for _, value := range values {
			checkRender(t, rect(name, value, " width='0'"), ".")
			checkRender(t, rect(name, value, ""), ".")
		}
	}
	checkRenderCode(t, impl.RenderValue, svg("1", "1", "<polygon points='1 2 3'/>"), svg("1", "1", "<path d='x'/>"), svg("1", "1", "<circle r='-1'/>"), svg("1", "1", "<ellipse rx='1' ry='x'/>"), svg("1", "1", "<line x1='x'/>"), svg("1", "1", "<polyline points='x'/>"))
	// Where something around it has a wrong transform, or a use a wrong place.
	checkRenderCode(t, impl.RenderValue, "<svg width='1' height='1' transform='x'><rect/></svg>", svg("1", "1", "<g transform='x'><rect/></g>"), svg("1", "1", "<defs><rect id='a'/></defs><use href='#a' x='x'/>"), svg("1", "1", "<g opacity='x'><rect opacity='1'/></g>"))
	checkRender(t, "<svg width='1' height='1' transform='x'/>", ".")
	checkRender(t, svg("1", "1", "<use x='x' href='#none'/><g transform='x'/>"), ".")
}

// Values ahead of what is far, in one shape; a shape ahead of the next one.
func TestRenderValueAheadOfFar(t *testing.T) {
	far := "width='1025' height='1'"
	checkRenderCode(t, impl.RenderFar, svg4("<rect "+far+"/>"))
	for name, values := range wrongValues {
		if name != "width" && name != "x" {
			checkRenderCode(t, impl.RenderValue, svg4("<rect "+far+" "+name+"='"+values[0]+"'/>"))
			checkRenderCode(t, impl.RenderFar, svg4("<rect "+far+"/><rect "+name+"='"+values[0]+"'/>"))
			checkRenderCode(t, impl.RenderValue, svg4("<rect "+name+"='"+values[0]+"'/><rect "+far+"/>"))
		}
	}
	// Far ahead of clips, clips ahead of the fill's run, that ahead of the stroke's.
	const (
		badClip  = "<clipPath id='c'><rect x='x'/></clipPath>"
		farClip  = "<clipPath id='c'><rect width='1025' height='1'/></clipPath>"
		empty    = "<linearGradient id='e'/>"
		farRun   = "<linearGradient id='f' x1='1025'><stop/></linearGradient>"
		wrongRun = "fill='url(#e)' stroke='url(#f)'"
		farthest = "fill='url(#f)' stroke='url(#e)'"
	)
	checkRenderCode(t, impl.RenderFar, svg4(badClip+"<rect "+far+" clip-path='url(#c)'/>"), svg4(badClip+empty+"<rect "+far+" clip-path='url(#c)' fill='url(#e)'/>"))
	checkRenderCode(t, impl.RenderValue, svg4(badClip+farRun+"<rect clip-path='url(#c)' fill='url(#f)'/>"), svg4(empty+farRun+"<rect "+wrongRun+"/>"))
	checkRenderCode(t, impl.RenderFar, svg4(farClip+empty+"<rect clip-path='url(#c)' fill='url(#e)'/>"), svg4(empty+farRun+"<rect "+farthest+"/>"))
}

func TestRenderFar(t *testing.T) {
	for _, x := range []string{"1024", "-1024"} {
		// One part of One beyond.
		over := x + ".00001"
		checkRender(t, svg("1", "1", "<line x2='"+x+"' y2='"+x+"'/>"), ".")
		checkRender(t, svg("1", "1", "<path d='M0 0L1 1M0 "+x+"L"+x+" 0'/>"), ".")
		checkRenderCode(t, impl.RenderFar, svg("1", "1", "<line x2='"+over+"'/>"), svg("1", "1", "<line y1='"+over+"'/>"), svg("1", "1", "<path d='M0 0L1 1M0 0L0 "+over+"'/>"), svg("1", "1", "<polygon points='0 0 1 1 "+over+" 0'/>"))
		// Ahead of the move, though it comes near.
		checkRender(t, svg("1", "1", "<line x2='"+x+"' transform='scale(.5)'/>"), ".")
		checkRenderCode(t, impl.RenderFar, svg("1", "1", "<line x2='"+over+"' transform='scale(.5)'/>"), svg("1", "1", "<line x2='"+over+"' transform='scale(0)'/>"))
		// Behind the move, though it was near.
		checkRender(t, svg("1", "1", "<line x2='1' y2='1' transform='scale("+x+")'/>"), ".")
		checkRender(t, svg("1", "1", "<line transform='translate("+x+" "+x+")'/>"), ".")
		checkRenderCode(t, impl.RenderFar, svg("1", "1", "<line x2='1' transform='scale("+over+" 1)'/>"), svg("1", "1", "<line y2='1' transform='scale(1 "+over+")'/>"), svg("1", "1", "<line transform='translate("+over+")'/>"), svg("1", "1", "<line transform='translate(0 "+over+")'/>"))
	}
	// A shape without lines is nowhere.
	checkRender(t, svg("1", "1", "<rect x='9999' width='0' height='1'/><circle cx='-99999'/><polyline points='99999 1'/>"), ".")
	// What goes beyond all numbers is far, too.
	checkRenderCode(t, impl.RenderFar, svg("1", "1", "<line x2='1024' transform='scale(65536)'/>"), svg("1", "1", "<line x2='1024' transform='scale(65536) translate(1)'/>"), svg("1", "1", "<line x2='16777216'/>"))
	// The view moves, too.
	checkRenderCode(t, impl.RenderFar, view("0 0 1 1", "<line x2='257'/>"), view("-1021 0 4 4", "<line x2='4'/>"))
	checkRender(t, view("0 0 1 1", "<line x2='256'/>"), "....", "....", "....", "....")
	checkRender(t, view("-1020 0 4 4", "<line x2='4'/>"), "....", "....", "....", "....")
	// A fill that is none is looked at, too.
	checkRenderCode(t, impl.RenderFar, svg("1", "1", "<line x2='1025' fill='none'/>"))
}

func TestRenderFarStrokes(t *testing.T) {
	edge := "<line x2='1024' y1='1' y2='1' stroke-linecap='square' "
	checkRender(t, svg("1", "1", edge+"/>"), ".")
	checkRender(t, svg("1", "1", edge+"stroke='none'/>"), ".")
	checkRender(t, svg("1", "1", edge+"stroke='url(#none)'/>"), ".")
	checkRender(t, svg("1", "1", edge+"stroke-width='0' stroke='red'/>"), ".")
	checkRenderCode(t, impl.RenderFar, svg("1", "1", edge+"stroke='red'/>"), svg("1", "1", edge+"stroke='red' stroke-opacity='0'/>"), svg("1", "1", "<linearGradient id='a'><stop/></linearGradient>"+edge+"stroke='url(#a)'/>"))
	checkRender(t, svg("1", "1", "<line x2='1023.5' y1='2' y2='2' stroke='red' stroke-linecap='square'/>"), ".")
	checkRenderCode(t, impl.RenderFar, svg("1", "1", "<line x2='1023.50002' y1='2' y2='2' stroke='red' stroke-linecap='square'/>"))
	checkRender(t, svg("1", "1", "<line x2='1024' y1='2' y2='2' stroke='red'/>"), ".")
	// The stroke's lines count where they have been moved to.
	checkRender(t, svg("1", "1", "<line x2='1024' y1='4' y2='4' stroke='red' stroke-linecap='square' transform='scale(.5)'/>"), ".")
	checkRenderCode(t, impl.RenderFar, svg("1", "1", "<line x2='1000' y1='4' y2='4' stroke='red' stroke-linecap='square' transform='translate(24)'/>"), svg("1", "1", "<line x2='512' y2='1' stroke='red' stroke-linecap='round' transform='scale(2)'/>"))
	checkRender(t, svg("1", "1", "<line x2='1000' y1='4' y2='4' transform='translate(24)'/>"), ".")
	// Too many dashes, and too many points, where StrokeLines says no.
	dashed := "<line x2='1000' y1='9' y2='9' stroke-dasharray='.25' "
	checkRender(t, svg("1", "1", dashed+"/>"), ".")
	checkRenderCode(t, impl.RenderFar, svg("1", "1", dashed+"stroke='red'/>"))
	points := "<circle r='6' cx='99' cy='99' stroke-dasharray='.2' stroke-linejoin='round' stroke-linecap='round' "
	checkRender(t, svg("1", "1", points+"/>"), ".")
	checkRenderCode(t, impl.RenderFar, svg("1", "1", points+"stroke='red'/>"))
	// More points than MoveLines takes are moved all the same.
	l, _ := impl.ShapeLines(elementIn(0, "circle", "r", "1"))
	band, ok := impl.StrokeLines(l, penOf(one, impl.JoinRound, impl.CapButt))
	count := 0
	for _, line := range band {
		count += len(line.Points)
	}
	if !ok || count <= impl.MaxPoints {
		t.Fatal(count)
	}
	checkRender(t, svg4("<circle cx='2' cy='10' r='8' stroke='red' stroke-width='8' stroke-linejoin='round'/>"), "RRRR", "RRRR", "RRRR", "RRRR")
}
