package tests

import (
	"slices"
	"strconv"
	"strings"
	"testing"
	"time"

	"loop.example/g00137/impl"
)

const shapeNames = "rect circle ellipse line polyline polygon path"

func samePaths(shapes []impl.Shape, want [][]int) bool {
	return slices.EqualFunc(shapes, want, func(s impl.Shape, path []int) bool { return slices.Equal(s.Path, path) })
}

// pathsFor reads Paths told as numbers with blanks between, one behind a comma from the next.
func pathsFor(t *testing.T, s string) [][]int {
	t.Helper()
	var out [][]int
	for _, piece := range strings.Split(s, ",") {
		var path []int
		for _, word := range strings.Fields(piece) {
			k, err := strconv.Atoi(word)
			if err != nil {
				t.Fatal(err)
			}
			path = append(path, k)
		}
		if len(path) > 0 {
			out = append(out, path)
		}
	}
	return out
}

func checkShapes(t *testing.T, l []impl.Node, sheet []impl.Rule, want ...[]int) {
	t.Helper()
	if got, code := impl.ShapesIn(l, sheet); code != impl.TreeOk || !samePaths(got, want) {
		t.Errorf("%.700v %q: %v, %d; not %v", l, sheetAsTold(sheet), got, code, want)
	}
}

func checkTreeCode(t *testing.T, l []impl.Node, sheet []impl.Rule, want int) {
	t.Helper()
	if got, code := impl.ShapesIn(l, sheet); code != want || len(got) != 0 {
		t.Errorf("%.700v: %d shapes, code %d; not %d", l, len(got), code, want)
	}
}

// checkDrawn looks at the Paths of a text, told as pathsFor reads them.
func checkDrawn(t *testing.T, text, paths string) {
	t.Helper()
	checkShapes(t, treeOf(t, text), nil, pathsFor(t, paths)...)
}

func TestShapesOfEachName(t *testing.T) {
	for _, name := range strings.Fields(shapeNames) {
		checkDrawn(t, "<"+name+"/>", "0")
		checkDrawn(t, "<svg><"+name+"/></svg>", "0 1")
		checkDrawn(t, "<svg>text<g><"+name+">text</"+name+">text</g></svg>", "0 2 3")
		// What is in a shape is not drawn.
		checkDrawn(t, "<svg><"+name+"><rect/><g><rect/></g><use href='#a'/></"+name+"><line id='a'/></svg>", "0 1, 0 6")
		checkDrawn(t, "<svg><defs><"+name+" id='a'><rect/></"+name+"></defs><use href='#a'/></svg>", "0 4 2")
		for _, around := range []string{"svg", "g"} {
			checkDrawn(t, "<"+around+"><"+name+"/></"+around+">", "0 1")
			checkDrawn(t, "<svg><"+around+"><"+name+"/><"+around+"><"+name+"/></"+around+"></"+around+"></svg>", "0 1 2, 0 1 3 4")
		}
	}
	checkDrawn(t, "<svg><rect/><circle/><ellipse/><line/><polyline/><polygon/><path/></svg>", "0 1, 0 2, 0 3, 0 4, 0 5, 0 6, 0 7")
}

func TestShapesOfOtherNames(t *testing.T) {
	for _, name := range strings.Fields("defs a switch style clipPath linearGradient stop title text tspan mask pattern marker image foreignObject Rect RECT Svg G Use USE Symbol Path rects rec rect. svg:rect _ shape") {
		checkDrawn(t, "<"+name+"/>", "")
		checkDrawn(t, "<"+name+"><rect/><g><rect/></g></"+name+">", "")
		checkDrawn(t, "<svg><"+name+"><rect/></"+name+"><rect/></svg>", "0 3")
		checkDrawn(t, "<svg><g><"+name+"><g><rect/></g></"+name+"></g><rect/></svg>", "0 5")
		// What is used is looked at by its own name, wherever it stands.
		checkDrawn(t, "<svg><"+name+" id='n'><rect id='a'/></"+name+"><use href='#n'/><use href='#a'/></svg>", "0 4 2")
	}
	checkDrawn(t, "<svg/>", "")
	checkDrawn(t, "<svg>text<g>text</g>text</svg>", "")
}

func TestShapesOfSymbols(t *testing.T) {
	checkDrawn(t, "<symbol/>", "")
	checkDrawn(t, "<symbol><rect/><g><line/></g></symbol>", "0 1, 0 2 3")
	checkDrawn(t, "<symbol><symbol><rect/></symbol><line/></symbol>", "0 3")
	checkDrawn(t, "<svg><symbol><rect/></symbol><g><symbol><rect/></symbol></g></svg>", "")
	checkDrawn(t, "<svg><symbol id='s'><rect/><line/></symbol><use href='#s'/></svg>", "0 4 1 2, 0 4 1 3")
	checkDrawn(t, "<svg><use href='#s'/><symbol id='s'><rect/></symbol></svg>", "0 1 2 3")
	checkDrawn(t, "<svg><defs><symbol id='s'><rect/></symbol></defs><use href='#s'/><use href='#s'/></svg>", "0 4 2 3, 0 5 2 3")
	// A symbol in one that is used is not itself used; by a use in it, it is.
	checkDrawn(t, "<svg><symbol id='s'><rect/><symbol id='i'><line/></symbol></symbol><use href='#s'/></svg>", "0 5 1 2")
	checkDrawn(t, "<svg><symbol id='s'><rect/><symbol id='i'><line/></symbol><use href='#i'/></symbol><use href='#s'/></svg>", "0 6 1 2, 0 6 1 5 3 4")
	checkDrawn(t, "<svg><symbol id='s'><rect/><symbol id='i'><line/></symbol></symbol><use href='#i'/></svg>", "0 5 3 4")
	checkDrawn(t, "<svg><g id='g'><symbol><rect/></symbol><line/></g><use href='#g'/></svg>", "0 1 4, 0 5 1 4")
	checkDrawn(t, "<svg><symbol id='s'><g><symbol><rect/></symbol><line/></g></symbol><use id='u' href='#s'/><use href='#u'/></svg>", "0 6 1 2 5, 0 7 6 1 2 5")
	// One that is on the Path and stands in what is used is passed over, since it is not used there.
	checkDrawn(t, "<svg><defs><g id='g'><line/><symbol id='s'><use href='#g'/></symbol></g></defs><use href='#s'/></svg>", "0 6 4 5 2 3")
}

func TestShapesOfUses(t *testing.T) {
	for text, paths := range map[string]string{
		"<svg><use href='#a'/><rect id='a'/></svg>":                                                            "0 1 2, 0 2",
		"<svg><rect id='a'/><use href='#a'/></svg>":                                                            "0 1, 0 2 1",
		"<svg><rect id='a'/><use xlink:href='#a'/></svg>":                                                      "0 1, 0 2 1",
		"<svg><rect id='a'/><use href='#b' xlink:href='#a'/></svg>":                                            "0 1",
		"<svg><rect id='a'/><use href='' xlink:href='#a'/><use href='a'/><use href='#'/><use/></svg>":          "0 1",
		"<svg><rect id=''/><use href='#'/><use href=''/></svg>":                                                "0 1",
		"<svg><use href='#none'/><use href='#t'/>t</svg>":                                                      "",
		"<svg><line id='a'/><rect id='a'/><use href='#a'/></svg>":                                              "0 1, 0 2, 0 3 1",
		"<svg><defs><g id='a'><rect/><line/></g></defs><use href='#a'/></svg>":                                 "0 5 2 3, 0 5 2 4",
		"<svg><defs><svg id='a'><rect/><g><line/></g></svg></defs><use href='#a'/></svg>":                      "0 6 2 3, 0 6 2 4 5",
		"<svg><defs><rect id='a'/><use id='b' href='#a'/><use id='c' href='#b'/></defs><use href='#c'/></svg>": "0 5 4 3 2",
		"<svg><use id='c' href='#b'/><use id='b' href='#a'/><rect id='a'/></svg>":                              "0 1 2 3, 0 2 3, 0 3",
		"<svg><defs id='d'><rect id='a'/></defs><use href='#d'/></svg>":                                        "",
		"<svg><title id='d'><g><rect id='a'/></g></title><g><use href='#a'/></g></svg>":                        "0 4 5 3",
		"<svg><rect><g id='a'><line/></g></rect><use href='#a'/></svg>":                                        "0 1, 0 4 2 3",
		// What stands in a use is not drawn by it.
		"<svg><use><rect/></use><use href='#none'><rect/></use><use href='#a'><line/><rect id='a'/></use></svg>": "0 5 7",
		"<use href='#a'><rect id='a'/><line/></use>":                                                             "0 1",
		"<use/>": "",
		"<g><g id='a'><rect/><rect/></g><g><use href='#a'/><g><use href='#a'/></g></g></g>":              "0 1 2, 0 1 3, 0 4 5 1 2, 0 4 5 1 3, 0 4 6 7 1 2, 0 4 6 7 1 3",
		"<svg><g id='a'><rect/></g><g id='b'><use href='#a'/><use href='#a'/></g><use href='#b'/></svg>": "0 1 2, 0 3 4 1 2, 0 3 5 1 2, 0 6 3 4 1 2, 0 6 3 5 1 2",
		"<svg><g><use href='#b'/><g id='a'><rect/></g></g><g><g id='b'><use href='#a'/></g></g></svg>":   "0 1 2 6 7 3 4, 0 1 3 4, 0 5 6 7 3 4",
	} {
		checkDrawn(t, text, paths)
	}
}

// displayCase: sheet, text and the Paths.
type displayCase struct{ sheet, text, paths string }

func TestShapesByDisplay(t *testing.T) {
	for _, c := range []displayCase{
		{"", "<svg><rect display='none'/><line/></svg>", "0 2"},
		{"", "<svg><rect display=' none&#10;'/><line/></svg>", "0 2"},
		{"", "<svg><rect style='display:none'/><line/></svg>", "0 2"},
		{"", "<svg><rect style='display:none' display='inline'/><line style='display:inline' display='none'/></svg>", "0 2"},
		{"rect{display:none}", "<svg><rect/><line/></svg>", "0 2"},
		{"rect{display:none}#a{display:block}", "<svg><rect/><rect id='a'/></svg>", "0 2"},
		{"rect{display:none}", "<svg><rect display='inline'/><rect style='display:inline'/></svg>", "0 2"},
		{"rect{display:none!important}", "<svg><rect style='display:inline'/><rect style='display:inline!important'/></svg>", "0 2"},
		{"", "<svg><rect display='None'/><rect display='NONE'/><rect display='none none'/><rect display='hidden'/><rect display=''/><rect visibility='hidden'/><rect Display='none'/></svg>", "0 1, 0 2, 0 3, 0 4, 0 5, 0 6, 0 7"},
		{"", "<svg display='none'><rect/></svg>", ""},
		{"svg{display:none}", "<svg><rect display='inline'/></svg>", ""},
		{"", "<rect display='none'/>", ""},
		{"", "<svg><g display='none'><rect display='inline'/><g><rect/></g></g><line/></svg>", "0 5"},
		{"g g{display:none}", "<svg><g><g><rect/></g><line/></g></svg>", "0 1 4"},
		// A use that is not drawn, what is used that is not, and elements around what is used.
		{"", "<svg><defs><rect id='a'/></defs><use href='#a' display='none'/><use href='#a'/></svg>", "0 4 2"},
		{"", "<svg><defs><rect id='a' display='none'/></defs><use href='#a' display='inline'/></svg>", ""},
		{"", "<svg><defs><g id='a'><rect display='none'/><line/></g></defs><use href='#a'/></svg>", "0 5 2 4"},
		{"", "<svg><g display='none'><rect id='a'/></g><use href='#a'/></svg>", "0 3 2"},
		{"", "<svg><defs display='none'><rect id='a'/></defs><use href='#a'/></svg>", "0 3 2"},
		{"", "<svg><symbol id='a' display='none'><rect/></symbol><symbol id='b'><rect/></symbol><use href='#a'/><use href='#b'/></svg>", "0 6 3 4"},
		{"use{display:none}", "<svg><rect id='a'/><use href='#a'/></svg>", "0 1"},
		{"g rect{display:none}", "<svg><g><rect id='a'/></g><use href='#a'/></svg>", ""},
		{"g rect{display:none}", "<svg><rect id='a'/><g><use href='#a'/></g></svg>", "0 1, 0 2 3 1"},
		// What is inherited is inherited along the Path.
		{"", "<svg><g><rect display='inherit'/></g></svg>", "0 1 2"},
		{"", "<svg><g display='none'><rect id='a' display='inherit'/></g><use href='#a'/><use href='#a' display='none'/></svg>", "0 3 2"},
		{"", "<svg color='none'><rect display='currentColor'/><rect display='currentColor' color='red'/><rect/></svg>", "0 2, 0 3"},
		{"", "<svg><g color='none'><rect id='a' display='currentcolor'/></g><use href='#a'/><use color='none' href='#a'/></svg>", "0 3 2"},
		{"", "<svg><defs><rect id='a' display='CURRENTCOLOR'/><use id='u' href='#a'/></defs><use href='#u'/><g color='none'><use href='#u'/></g></svg>", "0 4 3 2"},
		{"", "<svg><g color='currentColor' display='currentColor'><rect color='none' display='inherit'/><line/></g></svg>", "0 1 3"},
		{"", "<svg><g color='none'><use href='#a' color='inherit'/><use href='#a' color='black'/></g><defs><g id='a'><rect display='currentColor'/></g></defs></svg>", "0 1 3 5 6"},
		{"*{display:none}", "<svg><rect/></svg>", ""},
	} {
		checkShapes(t, treeOf(t, c.text), sheetFor(t, c.sheet), pathsFor(t, c.paths)...)
	}
}

func TestShapesWithTheirOwnSheet(t *testing.T) {
	l := treeOf(t, "<svg><style>.x{display:none}</style><rect class='x'/><line/></svg>")
	checkShapes(t, l, nil, []int{0, 3}, []int{0, 4})
	checkShapes(t, l, impl.SheetIn(l), []int{0, 4})
}

func TestShapesOfBadTrees(t *testing.T) {
	for name, l := range badTrees() {
		for _, sheet := range [][]impl.Rule{nil, sheetFor(t, "*{display:none}"), make([]impl.Rule, impl.MaxRules+1)} {
			if got, code := impl.ShapesIn(l, sheet); code != impl.TreeBad || len(got) != 0 {
				t.Errorf("%s: %v, %d", name, got, code)
			}
		}
	}
	good := treeOf(t, "<svg id='a'><rect/></svg>")
	cyclic := treeOf(t, "<svg id='a'><use href='#a'/></svg>")
	for _, count := range []int{0, 1, impl.MaxRules} {
		checkShapes(t, good, make([]impl.Rule, count), []int{0, 1})
		checkTreeCode(t, cyclic, make([]impl.Rule, count), impl.TreeCycle)
	}
	for _, count := range []int{impl.MaxRules + 1, impl.MaxRules + 2, 1000} {
		checkTreeCode(t, good, make([]impl.Rule, count), impl.TreeBad)
		checkTreeCode(t, cyclic, make([]impl.Rule, count), impl.TreeBad)
		checkTreeCode(t, flat(impl.MaxNodes), make([]impl.Rule, count), impl.TreeBad)
	}
	// Rules that say nothing as they should are no fault of the sheet.
	odd := []impl.Rule{{Selectors: [][]impl.Part{nil, {{}}, {onePart("\xff", "", "1", "2", "3", "4", "5")}}, Decls: []impl.Decl{decl("display", "none"), decl("\xff", "\x00")}}}
	checkShapes(t, good, odd, []int{0, 1})
}

func TestShapesOfCycles(t *testing.T) {
	for _, s := range []string{
		"<use id='a' href='#a'/>",
		"<svg><use id='a' href='#a'/></svg>",
		"<svg id='a'><use href='#a'/></svg>",
		"<svg id='a'><g><g><rect/><use href='#a'/></g></g></svg>",
		"<symbol id='a'><use href='#a'/></symbol>",
		"<use id='a' href='#b'><use id='b' href='#a'/></use>",
		"<svg><g id='a'><use href='#a'/></g></svg>",
		"<svg><g id='a'><g><g><use href='#a'/></g></g></g></svg>",
		"<svg><rect/><g id='a'><rect/><use href='#a'/><rect/></g><rect/></svg>",
		"<svg><use id='a' href='#b'/><use id='b' href='#a'/></svg>",
		"<svg><g id='a'><use href='#b'/></g><g id='b'><use href='#a'/></g></svg>",
		"<svg><g id='a'><use href='#b'/></g><g id='b'><use href='#c'/></g><g id='c'><use href='#a'/></g></svg>",
		"<svg><defs><g id='a'><use href='#b'/></g><g id='b'><use href='#a'/></g></defs><use href='#b'/></svg>",
		"<svg><symbol id='s'><use href='#s'/></symbol><use href='#s'/></svg>",
		"<svg><symbol id='s'><use href='#g'/></symbol><g id='g'><use href='#s'/></g></svg>",
		"<svg id='r'><defs><g id='a'><use href='#r'/></g></defs><use href='#a'/></svg>",
		"<svg><title><g id='a'><use xlink:href='#a'/></g></title><use href='#a'/></svg>",
		// What is used a second time is on the Path by its own place, not as what was used.
		"<svg><g id='a'><g id='b'><use href='#c'/></g></g><defs><use id='c' href='#b'/></defs></svg>",
		"<svg><g id='a'><use id='u' href='#v'/></g><defs><use id='v' href='#u'/></defs></svg>",
		// It has come again without being used, and is still on the Path when that is left.
		"<svg><defs><g id='p' color='none'><g id='x'><use display='currentColor' href='#p'/></g><use href='#x'/></g></defs><use href='#x'/></svg>",
	} {
		l := treeOf(t, s)
		checkTreeCode(t, l, nil, impl.TreeCycle)
		if cycle, ok := impl.HasCycle(l); !cycle || !ok {
			t.Errorf("%s: HasCycle: %v, %v", s, cycle, ok)
		}
	}
}

func TestShapesOfCyclesThatAreNotDrawn(t *testing.T) {
	for _, c := range []displayCase{
		{"", "<svg><defs><use id='a' href='#a'/></defs><rect/></svg>", "0 3"},
		{"", "<svg><defs><g id='a'><use href='#a'/></g></defs><rect/></svg>", "0 4"},
		{"", "<svg><rect><use id='a' href='#a'/></rect></svg>", "0 1"},
		{"", "<svg><symbol id='a'><use href='#a'/></symbol><rect/></svg>", "0 3"},
		{"", "<svg id='r'><title><use href='#r'/></title><rect/></svg>", "0 3"},
		{"", "<svg id='r'><use href='#none'><use href='#r'/></use><rect/></svg>", "0 3"},
		{"", "<svg><use id='a' href='#a' display='none'/><rect/></svg>", "0 2"},
		{"", "<svg id='r'><g display='none'><use href='#r'/></g><rect/></svg>", "0 3"},
		{"", "<svg id='r' display='none'><use href='#r'/></svg>", ""},
		{"use{display:none}", "<svg id='r'><use href='#r'/><rect/></svg>", "0 2"},
		{"", "<svg><g id='a'><use href='#b' style='display:none'/></g><g id='b'><use href='#a'/><rect/></g></svg>", "0 3 5"},
		{"", "<svg><g id='a'><use href='#b'/></g><g id='b' display='none'><use href='#a'/><rect/></g></svg>", ""},
		{"", "<svg><rect id='a'/><g id='a'><use href='#a'/></g></svg>", "0 1, 0 2 3 1"},
		{"", "<svg id='r'><defs id='d'><use href='#r'/></defs><use href='#d'/><rect/></svg>", "0 4"},
		// The same element twice on one Path, without being used again.
		{"", "<svg><defs><g id='p' color='none'><g id='x'><use display='currentColor' href='#p'/><line/></g></g></defs><use href='#x'/></svg>", "0 6 3 4 2 3 5, 0 6 3 5"},
	} {
		checkShapes(t, treeOf(t, c.text), sheetFor(t, c.sheet), pathsFor(t, c.paths)...)
	}
}

// shapesAndThen answers a root with count shapes and something behind.
func shapesAndThen(count int, behind string) string {
	return "<svg id='r'>" + strings.Repeat("<rect/>", count) + behind + "</svg>"
}

func TestShapesUpToTheMost(t *testing.T) {
	for _, count := range []int{1, 39, impl.MaxShapes} {
		var paths [][]int
		for k := range count {
			paths = append(paths, []int{0, k + 1})
		}
		for _, behind := range []string{"", "text", "<rect display='none'/>", "<defs><rect/></defs>", "<g/>", "<use/>", "<symbol><rect/></symbol>"} {
			checkShapes(t, treeOf(t, shapesAndThen(count, behind)), nil, paths...)
		}
	}
	for _, behind := range []string{"<rect/>", "<path/>", "<g><line/></g>", "<use href='#a'/><defs><line id='a'/></defs>", "<rect/><rect/>", "<rect/><use href='#r'/>", "<g><rect/><use href='#r'/></g>"} {
		checkTreeCode(t, treeOf(t, shapesAndThen(impl.MaxShapes, behind)), nil, impl.TreeMany)
	}
	checkTreeCode(t, treeOf(t, shapesAndThen(impl.MaxNodes-1, "")), nil, impl.TreeMany)
	for _, behind := range []string{"<use href='#r'/>", "<use href='#r'/><rect/>", "<use id='u' href='#u'/>", "<g><use href='#r'/></g>"} {
		for _, count := range []int{0, 39, impl.MaxShapes} {
			checkTreeCode(t, treeOf(t, shapesAndThen(count, behind)), nil, impl.TreeCycle)
		}
		checkTreeCode(t, treeOf(t, shapesAndThen(impl.MaxShapes+1, behind)), nil, impl.TreeMany)
	}
}

func TestShapesUpToTheMostByUses(t *testing.T) {
	four := "<svg id='r'><g id='a'><rect/><line/><rect/><line/></g>"
	l := treeOf(t, four+strings.Repeat("<use href='#a'/>", 9)+"</svg>")
	if got, code := impl.ShapesIn(l, nil); len(got) != impl.MaxShapes || code != impl.TreeOk || !slices.Equal(got[39].Path, []int{0, 14, 1, 5}) {
		t.Errorf("%v, %d", got, code)
	}
	for _, behind := range []string{"<use href='#a'/>", "<rect/>", "<use href='#a'/><use href='#r'/>"} {
		checkTreeCode(t, treeOf(t, four+strings.Repeat("<use href='#a'/>", 9)+behind+"</svg>"), nil, impl.TreeMany)
	}
	checkTreeCode(t, treeOf(t, four+strings.Repeat("<use href='#a'/>", 9)+"<use href='#r'/></svg>"), nil, impl.TreeCycle)
	for levels, code := range map[int]int{1: impl.TreeOk, 5: impl.TreeOk, 6: impl.TreeMany, 13: impl.TreeMany} {
		got, gotCode := impl.ShapesIn(treeOf(t, usesOfUses(levels, "<rect/>", "", "")), nil)
		if gotCode != code || code == impl.TreeOk && len(got) != 1<<levels {
			t.Errorf("%d levels: %d shapes, code %d", levels, len(got), gotCode)
		}
	}
}

// usesOfUses answers groups of which each has these uses, told by their attributes, of the next one; the last one has what is told in it. The last group is number 2 levels + 3 of its Path.
func usesOfUses(levels int, last string, uses ...string) string {
	out := "<svg><use href='#g0'/><defs>"
	for k := range levels {
		out += "<g id='g" + strconv.Itoa(k) + "'>"
		for _, attrs := range uses {
			out += "<use " + attrs + " href='#g" + strconv.Itoa(k+1) + "'/>"
		}
		out += "</g>"
	}
	return out + "<g id='g" + strconv.Itoa(levels) + "'>" + last + "</g></defs></svg>"
}

// longWay answers a chain of uses with the last element told; a Path to that has count elements. The use of the number k on the Path has the id of it.
func longWay(count int, last string) string {
	out := "<svg id='u0'><use id='u1' href='#u2'/><defs>"
	for k := 2; k < count-1; k++ {
		out += "<use id='u" + strconv.Itoa(k) + "' href='#u" + strconv.Itoa(k+1) + "'/>"
	}
	return out + strings.Replace(last, "ID", "id='u"+strconv.Itoa(count-1)+"'", 1) + "</defs></svg>"
}

func TestShapesOfLongPaths(t *testing.T) {
	for _, count := range []int{4, 10, 29, 30} {
		path := []int{0, 1}
		for k := range count - 2 {
			path = append(path, k+3)
		}
		checkShapes(t, treeOf(t, longWay(count, "<rect ID/>")), nil, path)
		checkShapes(t, treeOf(t, longWay(count-1, "<g ID><line/></g>")), nil, path)
		checkShapes(t, treeOf(t, longWay(count-1, "<symbol ID>text<title/></symbol><line/>")), nil)
		checkShapes(t, treeOf(t, longWay(count, "<rect ID display='none'/>")), nil)
	}
	// The last one is not drawn, or draws nothing.
	for _, last := range []string{"<g ID/>", "<use ID/>", "<use ID href='#none'/>", "<symbol ID/>", "<svg ID/>", "<g ID display='none'><rect/></g>"} {
		checkShapes(t, treeOf(t, longWay(30, last)), nil)
		checkTreeCode(t, treeOf(t, longWay(31, last)), nil, impl.TreeMany)
	}
	for _, last := range []string{"<title ID/>", "<defs ID><rect/></defs>", "<Rect ID/>"} {
		checkShapes(t, treeOf(t, longWay(30, last)), nil)
		checkShapes(t, treeOf(t, longWay(31, last)), nil)
	}
	for _, last := range []string{"<g ID>text<title/><symbol><rect/></symbol><defs><g/></defs></g>", "<use ID href='#d'/><defs id='d'><rect/></defs>"} {
		checkShapes(t, treeOf(t, longWay(30, last)), nil)
	}
	for _, count := range []int{31, 32, 40, 57} {
		checkTreeCode(t, treeOf(t, longWay(count, "<rect ID/>")), nil, impl.TreeMany)
		checkTreeCode(t, treeOf(t, longWay(count-1, "<g ID><line/></g>")), nil, impl.TreeMany)
		// A Path that is too long has no display.
		checkTreeCode(t, treeOf(t, longWay(count, "<rect ID display='none'/>")), nil, impl.TreeMany)
		checkTreeCode(t, treeOf(t, longWay(count, "<rect ID/>")), sheetFor(t, "rect{display:none}"), impl.TreeMany)
	}
	for _, last := range []string{"<g ID><g/></g>", "<g ID><use/></g>", "<g ID><use display='none' href='#u0'/></g>", "<g ID><rect/></g>", "<symbol ID><svg/></symbol>", "<use ID href='#s'/><symbol id='s'/>", "<use ID href='#s'/><rect display='none' id='s'/>"} {
		checkTreeCode(t, treeOf(t, longWay(30, last)), nil, impl.TreeMany)
	}
}

func TestShapesOfLongPathsByGroups(t *testing.T) {
	deep := func(inside string, count int) string {
		return strings.Repeat("<g>", count) + inside + strings.Repeat("</g>", count)
	}
	text := func(last int) string {
		return "<svg>" + deep("<use href='#a'/>", 8) + "<defs><g id='a'>" + deep("<use href='#b'/>", 6) + "</g><g id='b'>" + deep("<use href='#c'/>", 6) + "</g><g id='c'>" + deep("<rect/>", last) + "</g></defs></svg>"
	}
	var path []int
	for k := range 31 {
		if k != 10 { // the defs
			path = append(path, k)
		}
	}
	checkShapes(t, treeOf(t, text(2)), nil, path)
	checkTreeCode(t, treeOf(t, text(3)), nil, impl.TreeMany)
	checkTreeCode(t, treeOf(t, text(4)), nil, impl.TreeMany)
}

func TestShapesOfACycleAtTheEndOfALongPath(t *testing.T) {
	for _, back := range []string{"#u0", "#u1", "#u2", "#u17", "#u28"} {
		checkTreeCode(t, treeOf(t, longWay(30, "<use ID href='"+back+"'/>")), nil, impl.TreeCycle)
		checkTreeCode(t, treeOf(t, longWay(29, "<g ID><use href='"+back+"'/></g>")), nil, impl.TreeCycle)
		// The use itself is one too many on the Path, ahead of what it uses.
		checkTreeCode(t, treeOf(t, longWay(31, "<use ID href='"+back+"'/>")), nil, impl.TreeMany)
		checkTreeCode(t, treeOf(t, longWay(30, "<g ID><use href='"+back+"'/></g>")), nil, impl.TreeMany)
	}
	for _, count := range []int{3, 20, 29, 30} {
		checkTreeCode(t, treeOf(t, longWay(count, "<use ID href='#u0'/>")), nil, impl.TreeCycle)
		checkTreeCode(t, treeOf(t, longWay(count, "<use ID href='#u"+strconv.Itoa(count-1)+"'/>")), nil, impl.TreeCycle)
	}
	checkTreeCode(t, treeOf(t, longWay(30, "<g ID><rect/><use href='#u0'/></g>")), nil, impl.TreeMany)
	checkTreeCode(t, treeOf(t, longWay(29, "<g ID><use href='#u0'/><g><rect/></g></g>")), nil, impl.TreeCycle)
	checkTreeCode(t, treeOf(t, longWay(29, "<g ID><g><rect/></g><use href='#u0'/></g>")), nil, impl.TreeMany)
}

func TestShapesOfManyUsesEnd(t *testing.T) {
	ended := make(chan struct{})
	go func() {
		defer close(ended)
		checkManyUses(t)
	}()
	select {
	case <-ended:
	case <-time.After(5 * time.Second):
		t.Fatal("they have not ended after far more time than is needed")
	}
}

// checkManyUses goes over nodes that have more than a million ways in them.
func checkManyUses(t *testing.T) {
	for _, last := range []string{"", "text", "<title/>", "<rect display='none'/>", "<rect display='currentColor' color='none'/>", "<use/>", "<use href='#none'/>"} {
		checkShapes(t, treeOf(t, usesOfUses(13, last, "", "", "")), nil)
	}
	checkTreeCode(t, treeOf(t, usesOfUses(13, "<g><rect/></g>", "", "", "")), nil, impl.TreeMany)
	checkTreeCode(t, treeOf(t, usesOfUses(14, "", "", "")), nil, impl.TreeMany)
	// Of all ways the very last one alone draws something, or uses something again.
	path := []int{0, 1}
	for k := range 13 {
		path = append(path, 3+4*k, 6+4*k)
	}
	none := "color='none'"
	checkShapes(t, treeOf(t, usesOfUses(13, "<rect display='currentColor'/>", none, none, "")), nil, append(path, 55, 56))
	checkTreeCode(t, treeOf(t, usesOfUses(13, "<use display='currentColor' href='#g0'/>", none, none, "")), nil, impl.TreeCycle)
}

func TestShapesAreMetAgainInAnotherWay(t *testing.T) {
	for text, paths := range map[string]string{
		// The same element at the same depth: not drawn by its color, then drawn.
		"<svg><use color='none' href='#t'/><use href='#t'/><defs><g id='t'><rect display='currentColor'/></g></defs></svg>":                                                                               "0 2 4 5",
		"<svg><use href='#t'/><use color='none' href='#t'/><use href='#t'/><defs><g id='t'><rect display='currentColor'/></g></defs></svg>":                                                               "0 1 5 6, 0 3 5 6",
		"<svg><g color='none'><use href='#t'/></g><g><use href='#t'/></g><defs><g id='t'><g><rect display='currentColor'/></g></g></defs></svg>":                                                          "0 3 4 6 7 8",
		"<svg><use display='red' color='none' href='#t'/><use href='#t'/><defs><symbol id='t'><rect display='currentColor'/></symbol></defs></svg>":                                                       "0 2 4 5",
		"<svg><use display='currentColor' color='currentColor' href='#t'/><use color='currentColor' href='#t'/><defs><g id='t' display='inherit'><rect display='inherit' color='none'/></g></defs></svg>": "0 2 4 5",
		"<svg><symbol id='t'><rect/></symbol><use href='#t'/><g id='g'><symbol id='s'><rect/></symbol></g><use href='#s'/><use href='#g'/></svg>":                                                         "0 3 1 2, 0 7 5 6",
	} {
		checkDrawn(t, text, paths)
	}
	// Nothing was drawn from x on at first; the second time what it uses is on the Path.
	for _, inside := range []string{"<use href='#b'/>", "<use href='#b'/><use href='#e'/>", "<use href='#e'/><g><use href='#b'/></g><use href='#e'/>", "<use href='#v'/>"} {
		again := "<svg><g><use href='#x'/></g><g id='b'><use display='currentColor' href='#x'/></g><defs><g id='x' color='none'>" + inside + "</g><g id='e'/><use id='v' href='#b'/></defs></svg>"
		checkTreeCode(t, treeOf(t, again), nil, impl.TreeCycle)
	}
	// Nothing was drawn from u5 on at first; the second time its Path is too long.
	long := strings.Replace(longWay(30, "<use ID/>"), "<use id='u1'", "<use href='#u5'/><use id='u1'", 1)
	checkShapes(t, treeOf(t, long), nil)
	long = strings.Replace(longWay(31, "<use ID/>"), "<use id='u1'", "<use href='#u5'/><use id='u1'", 1)
	checkTreeCode(t, treeOf(t, long), nil, impl.TreeMany)
}

// hrefAsTold and what stands around it is the chapter once more, in other words.
func hrefAsTold(n impl.Node) string {
	for _, name := range []string{"href", "xlink:href"} {
		for _, a := range n.Attrs {
			if a.Name == name {
				return map[bool]string{true: strings.Replace(a.Value, "#", "", 1)}[strings.HasPrefix(a.Value, "#")]
			}
		}
	}
	return ""
}

type drawnAsTold struct {
	nodes []impl.Node
	sheet []impl.Rule
	paths [][]int
}

// from draws the last element of a Path, without sparing anything.
func (d *drawnAsTold) from(path []int, used bool) int {
	k := path[len(path)-1]
	name := d.nodes[k].Name
	shape := slices.Contains(strings.Fields(shapeNames), name)
	group := name == "svg" || name == "g" || name == "symbol" && (used || k == 0)
	switch {
	case !shape && !group && name != "use":
		return impl.TreeOk
	case len(path) > 30:
		return impl.TreeMany
	case valueAsTold(d.nodes, d.sheet, path, "display") == "none":
		return impl.TreeOk
	case shape && len(d.paths) == impl.MaxShapes:
		return impl.TreeMany
	case shape:
		d.paths = append(d.paths, path)
	case name == "use":
		target := firstWith(d.nodes, hrefAsTold(d.nodes[k]))
		if slices.Contains(path, target) {
			return impl.TreeCycle
		}
		if target >= 0 {
			return d.from(append(slices.Clone(path), target), true)
		}
	default:
		return d.inside(path, k)
	}
	return impl.TreeOk
}

func (d *drawnAsTold) inside(path []int, k int) int {
	for i, n := range d.nodes {
		if n.Up != k || n.Name == "" {
			continue
		}
		if code := d.from(append(slices.Clone(path), i), false); code != impl.TreeOk {
			return code
		}
	}
	return impl.TreeOk
}

// checkShapesAsTold answers the code.
func checkShapesAsTold(t *testing.T, l []impl.Node, sheet []impl.Rule) int {
	t.Helper()
	d := drawnAsTold{nodes: l, sheet: sheet}
	code := d.from([]int{0}, false)
	if code != impl.TreeOk {
		d.paths = nil
	}
	if got, gotCode := impl.ShapesIn(l, sheet); gotCode != code || !samePaths(got, d.paths) {
		t.Fatalf("%v %q: %v, %d; not %v, %d", l, sheetAsTold(sheet), got, gotCode, d.paths, code)
	}
	checkWaysFromRoot(t, l, d.paths)
	if cycle, _ := impl.HasCycle(l); code == impl.TreeCycle && !cycle {
		t.Fatalf("%v: TreeCycle without a cycle", l)
	}
	return code
}

// checkWaysFromRoot looks whether each step goes into an element or from a use to what it uses, and whether the last one is a shape.
func checkWaysFromRoot(t *testing.T, l []impl.Node, paths [][]int) {
	t.Helper()
	for _, path := range paths {
		good := path[0] == 0 && slices.Contains(strings.Fields(shapeNames), l[path[len(path)-1]].Name)
		for i, k := range path[1:] {
			above := path[i]
			if l[above].Name == "use" {
				good = good && impl.NodeOf(l, impl.HrefOf(l[above])) == k
			} else {
				good = good && l[k].Up == above
			}
		}
		if !good {
			t.Fatalf("%v: %v is no way from the root", l, path)
		}
	}
}

// someTree answers good nodes with groups, uses, symbols and shapes in which displays and colors are said.
func someTree(d *dice) []impl.Node {
	l := []impl.Node{elementIn(-1, oneOf(d, "svg", "svg", "svg", "svg", "g", "symbol", "use", "defs", "rect"), treeAttrs(d, "")...)}
	for count := 1 + d.below(30); len(l) < count; {
		up, deep := someUp(d, l)
		last := l[len(l)-1]
		if d.below(8) == 0 && (last.Name != "" || last.Up != up) {
			l = append(l, textIn(up, "t"))
		} else if deep < impl.MaxDeep {
			name := oneOf(d, "g", "g", "g", "svg", "symbol", "defs", "use", "use", "use", "rect", "circle", "path", "title")
			l = append(l, elementIn(up, name, treeAttrs(d, name)...))
		}
	}
	return l
}

func treeAttrs(d *dice, name string) []string {
	var pairs []string
	add := func(often int, name string, values ...string) {
		if d.below(often) == 0 {
			pairs = append(pairs, name, oneOf(d, values...))
		}
	}
	add(2, "id", "a", "b", "c", "d", "e", "f", "a", "b", "c", "d", "e", "f", "h", "")
	if name == "use" {
		add(1, oneOf(d, "href", "href", "xlink:href"), "#a", "#b", "#c", "#d", "#e", "#f", "#h", "#none", "a", "#", "")
	}
	add(12, "display", "none", "inherit", "currentColor", "currentColor", "inline")
	add(8, "color", "none", "none", "red", "inherit", "currentColor")
	add(16, "class", "k", "l")
	add(24, "style", "display:none", "color:none", "display:inherit;color:red", "color:none!important")
	return pairs
}

func someTreeSheet(d *dice) []impl.Rule {
	var l []impl.Rule
	for range d.below(4) {
		sel, _ := impl.ReadSelector(oneOf(d, "g", "use", "rect", "#a", "#b", ".k", "g rect", "defs *", "symbol", "svg", "#c use", "path"))
		said := decl(oneOf(d, "display", "color"), oneOf(d, "none", "none", "inline", "inherit", "currentColor"))
		said.Important = d.below(5) == 0
		l = append(l, impl.Rule{Selectors: [][]impl.Part{sel}, Decls: []impl.Decl{said}})
	}
	return l
}

func TestShapesOfAnyNodes(t *testing.T) {
	d := dice(888)
	counts := map[int]int{}
	for range 12000 {
		counts[checkShapesAsTold(t, someTree(&d), someTreeSheet(&d))]++
	}
	if counts[impl.TreeOk] < 3000 || counts[impl.TreeCycle] < 500 {
		t.Error(counts)
	}
}

// someChain answers groups and uses that use later ones, and seldom earlier ones, so that Paths are about as long as they may be.
func someChain(d *dice) []impl.Node {
	l := []impl.Node{elementIn(-1, "svg", "id", "root"), elementIn(0, "use", "href", "#g0"), elementIn(0, "defs")}
	levels := 12 + d.below(9)
	for k := range levels {
		next := "#g" + strconv.Itoa(k+1)
		group := len(l)
		l = append(l, elementIn(2, oneOf(d, "g", "g", "symbol", "use"), "id", "g"+strconv.Itoa(k), "href", next))
		for range d.below(3) {
			if d.below(25) == 0 {
				l = append(l, elementIn(group, "use", "href", "#g"+strconv.Itoa(d.below(k+1))))
			} else if d.below(5) == 0 {
				l = append(l, elementIn(group, oneOf(d, "g", "rect", "use"), treeAttrs(d, "use")...))
			}
		}
		l = append(l, elementIn(group, "use", "href", next))
	}
	l = append(l, elementIn(2, oneOf(d, "rect", "g", "title", "use"), "id", "g"+strconv.Itoa(levels)))
	return l[:min(len(l), impl.MaxNodes)]
}

func TestShapesOfAnyChains(t *testing.T) {
	d := dice(8888)
	counts := map[int]int{}
	for range 1500 {
		l := someChain(&d)
		if !impl.GoodNodes(l) {
			t.Fatalf("%v: not good", l)
		}
		counts[checkShapesAsTold(t, l, nil)]++
	}
	if counts[impl.TreeOk] < 100 || counts[impl.TreeCycle] < 100 || counts[impl.TreeMany] < 100 {
		t.Error(counts)
	}
}

func TestShapesAnswerNewMemory(t *testing.T) {
	for _, text := range []string{
		"<svg><rect/><rect/><g><line/><g><line/><line/></g><path/></g></svg>",
		"<svg><g id='a'><rect/><g><line/></g></g><use id='u' href='#a'/><use href='#u'/><use href='#a'/></svg>",
		usesOfUses(5, "<rect/>", "", ""),
		longWay(20, "<g ID><rect/><line/><g><path/><path/></g></g>"),
		shapesAndThen(impl.MaxShapes, ""),
	} {
		l := treeOf(t, text)
		want, _ := impl.ShapesIn(l, nil)
		for k := range want {
			got, _ := impl.ShapesIn(l, nil)
			fill(got[k].Path, -7)
			got[k].Path = append(got[k].Path, -7)
			for i := range got[k].Path {
				got[k].Path[i] = -7
			}
			for other := range got {
				if other != k && !slices.Equal(got[other].Path, want[other].Path) {
					t.Fatalf("%s: the Paths %d and %d share memory", text, k, other)
				}
			}
			fill(got, impl.Shape{Path: []int{-7}})
		}
		again, _ := impl.ShapesIn(l, nil)
		if len(want) < 4 || !slices.EqualFunc(again, want, func(a, b impl.Shape) bool { return slices.Equal(a.Path, b.Path) }) {
			t.Errorf("%s: what is answered hangs on an earlier answer", text)
		}
	}
}

func TestShapesWriteIntoNoArgument(t *testing.T) {
	for _, c := range []displayCase{
		{"#a{display:none}", "<svg><g><rect/></g><use href='#b'/><rect id='a'/><line id='b'/></svg>", "0 1 2, 0 3 5, 0 5"},
		{"", "<svg/>", ""},
		{"*{color:red;opacity:1}g rect{fill:none}", "<svg><g><rect/><use/></g></svg>", "0 1 2"},
	} {
		l := roomyNodes(treeOf(t, c.text), "display", "none", "href", "#a", "id", "c")
		sheet := roomyRules(sheetFor(t, c.sheet))
		sheet[:len(sheet)+1][len(sheet)] = ruleFor("svg", importantDecl("display", "none"))
		beforeNodes, beforeRules := cloneNodes(behindNodes(l)), cloneRules(behindRules(sheet))
		checkShapes(t, l, sheet, pathsFor(t, c.paths)...)
		if !sameNodes(behindNodes(l), beforeNodes) || !sameRules(behindRules(sheet), beforeRules) {
			t.Errorf("%s: an argument is written into", c.text)
		}
	}
	for _, code := range []int{impl.TreeBad, impl.TreeCycle, impl.TreeMany} {
		text := map[int]string{impl.TreeBad: "<svg/>", impl.TreeCycle: "<svg id='a'><rect/><use href='#a'/></svg>", impl.TreeMany: shapesAndThen(41, "")}[code]
		l, sheet := roomyNodes(treeOf(t, text), "id", "z"), roomyRules(nil)
		if code == impl.TreeBad {
			sheet = roomyRules(make([]impl.Rule, impl.MaxRules+1))
		}
		beforeNodes, beforeRules := cloneNodes(behindNodes(l)), cloneRules(behindRules(sheet))
		checkTreeCode(t, l, sheet, code)
		if !sameNodes(behindNodes(l), beforeNodes) || !sameRules(behindRules(sheet), beforeRules) {
			t.Errorf("%s: an argument is written into", text)
		}
	}
}
