package tests

import (
	"slices"
	"strconv"
	"strings"
	"testing"

	"loop.example/g00137/impl"
)

func checkValue(t *testing.T, l []impl.Node, sheet []impl.Rule, path []int, name, want string) {
	t.Helper()
	if got, ok := impl.ValueOf(l, sheet, path, name); got != want || !ok {
		t.Errorf("%.300v %q %v: ValueOf %s: %q, %v; not %q", l, sheetAsTold(sheet), path, name, got, ok, want)
	}
}

func checkNoValue(t *testing.T, l []impl.Node, sheet []impl.Rule, path []int, name string) {
	t.Helper()
	if got, ok := impl.ValueOf(l, sheet, path, name); got != "" || ok {
		t.Errorf("%.300v %v: ValueOf %q: %q, %v", l, path, name, got, ok)
	}
}

// lineOf answers elements around each other of which each says one value of the property; an empty one is not said.
func lineOf(name string, values ...string) []impl.Node {
	var l []impl.Node
	for k, value := range values {
		l = append(l, elementIn(k-1, "g"))
		if value != "" {
			l[k] = elementIn(k-1, "g", name, value)
		}
	}
	return l
}

// checkLine looks at the value of the innermost element of such a line, said by attributes, by styles and by rules.
func checkLine(t *testing.T, name, want string, values ...string) {
	t.Helper()
	path, sheet := []int{}, ""
	byAttrs, byStyles, byRules := lineOf(name, values...), lineOf(name, values...), tower(len(values))
	for k, value := range values {
		path = append(path, k)
		if value != "" {
			byStyles[k].Attrs = []impl.Attr{{Name: "style", Value: name + ":" + value}}
			sheet += "e" + strconv.Itoa(k) + "{" + name + ":" + value + "}"
		}
	}
	checkValue(t, byAttrs, nil, path, name, want)
	checkValue(t, byStyles, nil, path, name, want)
	checkValue(t, byRules, sheetFor(t, sheet), path, name, want)
}

func TestValueOfEachProperty(t *testing.T) {
	names, firsts, inherited := propertiesAsTold()
	for k, name := range names {
		first, passed := firsts[k], firsts[k]
		if inherited[name] {
			passed = "out"
		}
		checkLine(t, name, first, "")
		checkLine(t, name, first, "", "")
		checkLine(t, name, first, "", "", "", "", "", "", "", "", "", "")
		checkLine(t, name, "own", "own")
		checkLine(t, name, "own", "out", "own")
		checkLine(t, name, "own", "", "out", "own")
		checkLine(t, name, passed, "out", "")
		checkLine(t, name, passed, "out", "", "")
		checkLine(t, name, passed, "far", "out", "")
		checkLine(t, name, passed, "", "out", "", "", "", "", "", "", "")
		checkLine(t, name, "out", "out", "inherit")
		checkLine(t, name, "out", "far", "out", "inherit")
		checkLine(t, name, "out", "out", "inherit", "inherit")
		checkLine(t, name, "out", "far", "out", "inherit", "inherit", "inherit")
		checkLine(t, name, passed, "out", "", "inherit")
		checkLine(t, name, passed, "out", "inherit", "")
		checkLine(t, name, passed, "out", "inherit", "", "inherit")
		checkLine(t, name, first, "inherit")
		checkLine(t, name, first, "inherit", "")
		checkLine(t, name, first, "inherit", "inherit", "inherit")
		checkLine(t, name, first, "", "inherit")
		checkLine(t, name, "own", "inherit", "own")
		checkLine(t, name, "own", "inherit", "out", "inherit", "own")
		for _, other := range []string{"INHERIT", "Inherit", "inheriT", "inherited", "inherit x", "none", "initial"} {
			checkLine(t, name, other, "out", other)
		}
	}
}

func TestValueOfInheritByWeight(t *testing.T) {
	l := []impl.Node{elementIn(-1, "svg", "fill", "out", "opacity", "out"), elementIn(0, "g", "id", "a", "fill", "own", "opacity", "own")}
	both := []int{0, 1}
	for _, name := range []string{"fill", "opacity"} {
		for text, want := range map[string]string{
			"":                                    "own",
			"g{NAME:inherit}":                     "out",
			"g{NAME:rule}":                        "rule",
			"#a{NAME:inherit}g{NAME:rule}":        "out",
			"#a{NAME:rule}g{NAME:inherit}":        "rule",
			"g{NAME:inherit}g{NAME:rule}":         "rule",
			"g{NAME:inherit;NAME:rule}":           "rule",
			"g{NAME:inherit!important}":           "out",
			"svg{NAME:rule}g{NAME:inherit}":       "rule",
			"svg{NAME:inherit}g{x:y}":             "own",
			"svg,g{NAME:inherit}":                 map[string]string{"fill": "black", "opacity": "1"}[name],
			"g{NAME:inherit!important}#a{NAME:1}": "out",
		} {
			sheet := sheetFor(t, strings.ReplaceAll(text, "NAME", name))
			checkValue(t, l, sheet, both, name, want)
		}
	}
	styled := []impl.Node{elementIn(-1, "svg", "fill", "out"), elementIn(0, "g", "fill", "own", "style", "fill:inherit")}
	checkValue(t, styled, sheetFor(t, "g{fill:rule}"), both, "fill", "out")
	checkValue(t, styled, sheetFor(t, "g{fill:rule!important}"), both, "fill", "rule")
	blank := []impl.Node{elementIn(-1, "svg", "fill", "out"), elementIn(0, "g", "fill", "\n inherit\t")}
	checkValue(t, blank, nil, both, "fill", "out")
	empty := []impl.Node{elementIn(-1, "svg", "fill", "out"), elementIn(0, "g", "fill", " ")}
	checkValue(t, empty, nil, both, "fill", "out")
}

func TestValueOfCurrentColor(t *testing.T) {
	names, firsts, inherited := propertiesAsTold()
	spelled := []string{"currentColor", "currentcolor", "CURRENTCOLOR", "CurrentColor", "cURRENTcOLOR"}
	for k, name := range names {
		if name == "color" {
			continue
		}
		for _, current := range spelled {
			checkValue(t, []impl.Node{elementIn(-1, "g", name, current)}, nil, []int{0}, name, "black")
			checkValue(t, []impl.Node{elementIn(-1, "g", name, " "+current+"\n", "color", " red ")}, nil, []int{0}, name, "red")
			checkValue(t, []impl.Node{elementIn(-1, "g", "style", name+":"+current+";color:red")}, nil, []int{0}, name, "red")
			checkValue(t, []impl.Node{elementIn(-1, "g")}, sheetFor(t, "g{color:red;"+name+":"+current+"}"), []int{0}, name, "red")
			around := []impl.Node{elementIn(-1, "g", "color", "red"), elementIn(0, "g"), elementIn(1, "g", name, current)}
			checkValue(t, around, nil, []int{0, 1, 2}, name, "red")
			checkValue(t, around, nil, []int{2}, name, "black")
			// What is inherited has become the outer color already.
			passed := map[bool]string{true: "red", false: firsts[k]}[inherited[name]]
			outer := []impl.Node{elementIn(-1, "g", "color", "red", name, current), elementIn(0, "g", "color", "blue"), elementIn(1, "g", name, "inherit", "color", "lime")}
			checkValue(t, outer, nil, []int{0}, name, "red")
			checkValue(t, outer, nil, []int{0, 1}, name, passed)
			checkValue(t, outer, nil, []int{0, 2}, name, "red")
			checkValue(t, outer, nil, []int{0, 1, 2}, name, passed)
			checkValue(t, outer, nil, []int{1, 0}, name, "red")
		}
		for _, other := range []string{"currentColors", "current-color", "current Color", "currentColo", "current", "curren\u0442color", "\u00a0currentColor", "color"} {
			checkValue(t, []impl.Node{elementIn(-1, "g", name, other, "color", "red")}, nil, []int{0}, name, other)
		}
	}
}

func TestValueOfCurrentColorAsColor(t *testing.T) {
	for _, current := range []string{"currentColor", "CURRENTcolor"} {
		l := []impl.Node{elementIn(-1, "svg", "color", "red"), elementIn(0, "g", "color", current, "fill", "currentcolor"), elementIn(1, "rect"), elementIn(2, "rect", "color", "blue")}
		checkValue(t, l, nil, []int{0, 1}, "color", current)
		checkValue(t, l, nil, []int{0, 1, 2}, "color", current)
		checkValue(t, l, nil, []int{0, 1}, "fill", current)
		checkValue(t, l, nil, []int{0, 1, 2}, "fill", current)
		checkValue(t, l, nil, []int{0, 1, 2, 3}, "color", "blue")
	}
	l := []impl.Node{elementIn(-1, "svg", "color", "red"), elementIn(0, "g", "color", "inherit", "fill", "currentColor"), elementIn(0, "g", "color", "inherit", "stop-color", "currentColor")}
	checkValue(t, l, nil, []int{0, 1}, "fill", "red")
	checkValue(t, l, nil, []int{1}, "fill", "black")
	checkValue(t, l, nil, []int{0, 2}, "stop-color", "red")
	checkValue(t, l, sheetFor(t, "svg{color:blue}"), []int{0, 1}, "fill", "blue")
	checkValue(t, l, sheetFor(t, "g{color:lime!important}"), []int{0, 1}, "fill", "lime")
}

func TestValueOfGoesByThePath(t *testing.T) {
	l := []impl.Node{
		elementIn(-1, "svg", "fill", "root", "opacity", "root"),
		elementIn(0, "g", "id", "one", "fill", "first", "opacity", "first"),
		elementIn(1, "rect"),
		elementIn(0, "g", "id", "two", "fill", "second", "opacity", "inherit"),
		elementIn(3, "rect", "fill", "inherit"),
		textIn(4, "t"),
		elementIn(0, "use"),
	}
	for _, c := range []struct {
		path          []int
		fill, opacity string
	}{
		{[]int{0}, "root", "root"},
		{[]int{0, 1, 2}, "first", "1"},
		{[]int{0, 2}, "root", "1"},
		{[]int{2}, "black", "1"},
		{[]int{0, 3, 2}, "second", "1"},
		{[]int{1, 4}, "first", "1"},
		{[]int{4}, "black", "1"},
		{[]int{4, 4, 4}, "black", "1"},
		{[]int{2, 2}, "black", "1"},
		{[]int{0, 6, 1, 2}, "first", "1"},
		{[]int{0, 6, 2}, "root", "1"},
		{[]int{2, 1, 0}, "root", "root"},
		{[]int{1, 0, 2}, "root", "1"},
		{[]int{3}, "second", "1"},
		{[]int{1, 3}, "second", "first"},
		{[]int{1, 3, 3}, "second", "first"},
		{[]int{1, 2, 3}, "second", "1"},
		{[]int{3, 1, 3, 1, 6}, "first", "1"},
		{[]int{0, 0, 0, 3, 4}, "second", "1"},
		{[]int{0, 3}, "second", "root"},
	} {
		checkValue(t, l, nil, c.path, "fill", c.fill)
		checkValue(t, l, nil, c.path, "opacity", c.opacity)
	}
	// What a selector matches hangs on the nodes, whatever the path is.
	sheet := sheetFor(t, "#one rect{stroke:1}#two rect{stroke:2}")
	checkValue(t, l, sheet, []int{0, 3, 2}, "stroke", "1")
	checkValue(t, l, sheet, []int{0, 1, 4}, "stroke", "2")
	checkValue(t, l, sheet, []int{4}, "stroke", "2")
	checkValue(t, l, sheet, []int{4, 6}, "stroke", "2")
}

func TestValueOfPathsThatAreNone(t *testing.T) {
	l := []impl.Node{elementIn(-1, "svg", "fill", "out"), textIn(0, "t"), elementIn(0, "g", "fill", "inherit"), textIn(2, "u")}
	for _, count := range []int{1, 2, 29, 30} {
		path := append(slices.Repeat([]int{2}, count-1), 0)
		checkValue(t, l, nil, path, "fill", "out")
		slices.Reverse(path)
		checkValue(t, l, nil, path, "fill", "out")
	}
	for _, path := range [][]int{nil, {}, slices.Repeat([]int{0}, 31), slices.Repeat([]int{2}, 32), slices.Repeat([]int{0}, 10000), {1}, {3}, {0, 1}, {1, 0}, {0, 1, 2}, {0, 2, 3}, {3, 0, 2}} {
		checkNoValue(t, l, nil, path, "fill")
		checkNoValue(t, l, sheetFor(t, "*{fill:1}"), path, "opacity")
	}
	for _, k := range otherNumbers(len(l)) {
		for _, path := range [][]int{{k}, {0, k}, {k, 0}, {0, k, 2}} {
			checkNoValue(t, l, nil, path, "fill")
			checkNoValue(t, l, sheetFor(t, "*{fill:1}"), path, "fill")
		}
	}
}

func TestValueOfBadNodes(t *testing.T) {
	sheet := sheetFor(t, "*{fill:red}")
	for name, l := range badNodes() {
		for _, path := range [][]int{{0}, {0, 1}, {1}, {len(l) - 1}, {}} {
			if got, ok := impl.ValueOf(l, sheet, path, "fill"); got != "" || ok {
				t.Errorf("%s: %q, %v", name, got, ok)
			}
		}
		if got := impl.SheetIn(l); len(got) != 0 {
			t.Errorf("%s: SheetIn: %v", name, got)
		}
	}
	for name, l := range goodNodesOfAllKinds() {
		if got, ok := impl.ValueOf(l, sheet, []int{0}, "fill"); got != "red" || !ok {
			t.Errorf("%s: %q, %v", name, got, ok)
		}
	}
}

// valueAsTold is the chapter's sentence, one part behind the other.
func valueAsTold(l []impl.Node, sheet []impl.Rule, path []int, name string) string {
	last := len(path) - 1
	value, said := ownAsTold(l, sheet, path[last], name)
	if said && value == "inherit" || !said && inheritsAsTold(name) {
		if value = firstAsTold(name); last > 0 {
			value = valueAsTold(l, sheet, path[:last], name)
		}
	} else if !said {
		value = firstAsTold(name)
	}
	if name != "color" && strings.ToLower(value) == "currentcolor" {
		return valueAsTold(l, sheet, path, "color")
	}
	return value
}

func TestValueOfAnyPaths(t *testing.T) {
	d := dice(66666)
	for range 2000 {
		l, sheet := someStyled(&d), someSheet(&d)
		var path []int
		for range 1 + d.below(6) {
			if k := d.below(len(l)); l[k].Name != "" {
				path = append(path, k)
			}
		}
		for _, name := range []string{"fill", "color", "opacity", "stroke", "display"} {
			if len(path) > 0 {
				checkValue(t, l, sheet, path, name, valueAsTold(l, sheet, path, name))
			}
		}
	}
}

func TestValuesWriteIntoNoArgument(t *testing.T) {
	plain := []impl.Node{elementIn(-1, "svg", "color", "teal", "fill", "currentColor"), elementIn(0, "style"), textIn(1, "g{fill:x}"), elementIn(0, "g", "id", "a", "style", "stroke:s !important")}
	l := roomyNodes(plain, "fill", "behind", "opacity", "behind", "stroke-width", "behind")
	sheet := roomyRules(sheetFor(t, "*{be:1}g{offset:1;offset:2}#a,behind{fill-rule:x!important}"))
	path := []int{0, 3, 1, 1}[:2]
	beforeNodes, beforeRules := cloneNodes(behindNodes(l)), cloneRules(behindRules(sheet))
	for name, want := range map[string]string{"fill": "teal", "color": "teal", "opacity": "1", "stroke": "s", "offset": "2", "fill-rule": "x", "stroke-width": "1"} {
		checkValue(t, l, sheet, path, name, want)
		if name == "opacity" || name == "stroke-width" || name == "fill" {
			checkNoOwn(t, l, sheet, 3, name)
		}
		checkNoOwn(t, l, sheet, len(l), name)
	}
	got := impl.SheetIn(l)
	if !sameRules(got, []impl.Rule{ruleFor("g", decl("fill", "x"))}) {
		t.Errorf("SheetIn: %v", got)
	}
	if !sameNodes(behindNodes(l), beforeNodes) || !sameRules(behindRules(sheet), beforeRules) || !slices.Equal(path[:4], []int{0, 3, 1, 1}) {
		t.Error("an argument is written into")
	}
	// A rule or an element behind the end would say something else.
	behind := []impl.Rule{ruleFor("g", decl("fill", "one")), ruleFor("g", decl("fill", "two")), ruleFor("g", importantDecl("fill", "three"))}
	checkOwn(t, l, behind[:2], 3, "fill", "two")
	checkNoOwn(t, l, behind[:0], 3, "fill")
}

// sheetInAsTold reads the texts under all elements style by the forms of the chapter ahead.
func sheetInAsTold(l []impl.Node) []impl.Rule {
	var out []impl.Rule
	for k, n := range l {
		if text := underAsTold(l, k); n.Name == "style" && len(text) <= impl.MaxSheet {
			out = append(out, rulesAsTold(text)...)
		}
	}
	return out[:min(len(out), impl.MaxRules)]
}

func checkSheetIn(t *testing.T, l []impl.Node, text string) {
	t.Helper()
	if !impl.GoodNodes(l) {
		t.Fatalf("%v: not good", l)
	}
	if got := impl.SheetIn(l); sheetAsTold(got) != text || !sameRules(got, sheetInAsTold(l)) {
		t.Errorf("%.300v: SheetIn: %q, not %q", l, sheetAsTold(got), text)
	}
}

func TestSheetInOfSomeNodes(t *testing.T) {
	root := elementIn(-1, "svg")
	for text, l := range map[string][]impl.Node{
		"":                      {root, elementIn(0, "Style"), textIn(1, "a{}"), elementIn(0, "styles"), textIn(3, "a{}"), elementIn(0, "style"), elementIn(0, "g", "style", "a{}"), textIn(0, "a{}")},
		"a{x:y;}":               {root, elementIn(0, "style"), textIn(1, " a { x : y } ")},
		"a{}b{}":                {root, elementIn(0, "style"), textIn(1, "a{} wrong.. {} b{}")},
		"c{}b{}a{}":             {root, elementIn(0, "style"), textIn(1, "c{}"), elementIn(0, "g"), elementIn(3, "style"), textIn(4, "b{}"), elementIn(0, "style", "type", "x"), textIn(6, "a{}")},
		"a{}a{}":                {root, elementIn(0, "style"), textIn(1, "a{}"), elementIn(0, "style"), textIn(3, "a{}")},
		"a{x:y;}b{x:z;}":        {root, elementIn(0, "style"), textIn(1, "a{x:"), elementIn(1, "i"), textIn(3, "y}"), textIn(1, "b{"), elementIn(1, "j"), elementIn(1, "k"), textIn(1, "x:z")},
		"h{x:y;}":               {root, elementIn(0, "style"), textIn(1, "h{x:y"), elementIn(0, "style"), textIn(3, "}")},
		"a{}c{}":                {root, elementIn(0, "style"), textIn(1, "a{}b"), elementIn(0, "style"), textIn(3, "c{}")},
		"root{}":                {elementIn(-1, "style"), textIn(0, "root{}")},
		"ab{}b{}":               {root, elementIn(0, "style"), textIn(1, "a"), elementIn(1, "style"), textIn(3, "b{}")},
		"late{}":                {root, elementIn(0, "style"), textIn(1, "late{}/*"), textIn(0, "*/ not{}")},
		"deep{x:y !important;}": append(tower(9), elementIn(8, "style"), textIn(9, "deep{x:y!important}")),
		"a{}":                   {root, elementIn(0, "style"), elementIn(1, "g"), elementIn(2, "g"), textIn(3, "a{}")},
		"a b#c.d,*{x-y:z;}":     {root, elementIn(0, "style"), textIn(1, "a  b#c.d , * { X-Y : z }")},
		"f{}g{fill:red;}h{}":    {root, elementIn(0, "style"), textIn(1, "f{}g{fill:red}"), elementIn(0, "style"), elementIn(0, "style"), textIn(4, "h{}")},
	} {
		checkSheetIn(t, l, text)
	}
}

func TestSheetInOfLongTexts(t *testing.T) {
	root := elementIn(-1, "svg")
	just := "a{}" + strings.Repeat(" ", impl.MaxSheet-3)
	half := strings.Repeat(" ", impl.MaxSheet/2)
	checkSheetIn(t, []impl.Node{root, elementIn(0, "style"), textIn(1, just), elementIn(0, "style"), textIn(3, "b{}")}, "a{}b{}")
	checkSheetIn(t, []impl.Node{root, elementIn(0, "style"), textIn(1, just+" "), elementIn(0, "style"), textIn(3, "b{}")}, "b{}")
	checkSheetIn(t, []impl.Node{root, elementIn(0, "style"), textIn(1, "c{}"), elementIn(0, "style"), textIn(3, just+"}"), elementIn(0, "style"), textIn(5, "b{}")}, "c{}b{}")
	checkSheetIn(t, []impl.Node{root, elementIn(0, "style"), textIn(1, half), elementIn(1, "i"), textIn(1, half), elementIn(0, "style"), textIn(5, "b{}")}, "b{}")
	checkSheetIn(t, []impl.Node{root, elementIn(0, "style"), textIn(1, "a{}"+half), elementIn(1, "i"), textIn(1, half), elementIn(0, "style"), textIn(5, "b{}")}, "b{}")
	checkSheetIn(t, []impl.Node{root, elementIn(0, "style"), textIn(1, half), elementIn(1, "style"), textIn(3, "a{}"+half[3:]), textIn(1, "x")}, "a{}")
	checkSheetIn(t, []impl.Node{root, elementIn(0, "style"), textIn(1, strings.Repeat("a{}", 100000)), elementIn(0, "style"), textIn(3, "b{}")}, "b{}")
}

func TestSheetInOfBadNodes(t *testing.T) {
	good := []impl.Node{elementIn(-1, "svg"), elementIn(0, "style"), textIn(1, "a{}")}
	checkSheetIn(t, good, "a{}")
	for name, more := range map[string][]impl.Node{
		"a wrong Up":       {elementIn(7, "g")},
		"a second root":    {elementIn(-1, "g")},
		"in a text":        {elementIn(2, "g")},
		"texts side":       {textIn(1, "b{}")},
		"a wrong rune":     {textIn(0, "\xff")},
		"a wrong name":     {elementIn(0, "1")},
		"an empty node":    {{}},
		"too many":         slices.Repeat([]impl.Node{elementIn(0, "style")}, impl.MaxNodes-2),
		"attributes alike": {elementIn(0, "g", "a", "1", "a", "2")},
	} {
		if got := impl.SheetIn(slices.Concat(good, more)); len(got) != 0 {
			t.Errorf("%s: %v", name, got)
		}
	}
	for _, l := range [][]impl.Node{nil, {}, good[1:], {elementIn(0, "style"), textIn(0, "a{}")}, {textIn(-1, "a{}")}, {{Name: "style", Up: -1, Text: "a{}"}}} {
		if got := impl.SheetIn(l); len(got) != 0 {
			t.Errorf("%v: %v", l, got)
		}
	}
}

// rulesFrom answers the text of count rules without declarations, numbered from one on.
func rulesFrom(from, count int) string {
	out := ""
	for k := range count {
		out += "t" + strconv.Itoa(from+k) + "{}"
	}
	return out
}

func TestSheetInOfManyRules(t *testing.T) {
	for _, counts := range [][]int{{30}, {31}, {100}, {29, 1}, {29, 2}, {30, 1}, {30, 30}, {1, 29, 1}, {10, 10, 10}, {10, 10, 11}, {10, 10, 10, 1, 0, 5}, {0, 40}, {31, 31, 31}, {15, 16}, {28}, {14, 15}, slices.Repeat([]int{2}, 20)} {
		l, from := []impl.Node{elementIn(-1, "svg")}, 0
		for _, count := range counts {
			l = append(l, elementIn(0, "style"))
			if count > 0 {
				l = append(l, textIn(len(l)-1, rulesFrom(from, count)))
			}
			from += count
		}
		checkSheetIn(t, l, rulesFrom(0, min(from, impl.MaxRules)))
		sheet := impl.SheetIn(l)
		fill(sheet, ruleFor("behind"))
		checkSheetIn(t, l, sheetAsTold(sheet))
	}
}

func TestSheetInAnswersNewMemory(t *testing.T) {
	word := strings.Repeat("word", 3)
	text := word + "#" + word + "." + word + "{" + word + ":" + word + "}"
	l := []impl.Node{elementIn(-1, "style"), textIn(0, text), elementIn(0, "style"), textIn(2, text)}
	before := cloneNodes(l)
	sheet := impl.SheetIn(l)
	if len(sheet) != 3 {
		t.Fatal(sheet)
	}
	all := wordsOf(sheet)
	for k, w := range all {
		if sharesText(w, l[1].Text) || sharesText(w, l[3].Text) {
			t.Errorf("%q shares its argument's memory", w)
		}
		for _, other := range all[:k] {
			if sharesText(w, other) {
				t.Errorf("%q and %q share memory", w, other)
			}
		}
	}
	again := impl.SheetIn(l)
	for k := range sheet {
		sheet[k].Decls[0] = decl("x", "y")
		sheet[k].Selectors[0][0].Classes[0] = "x"
		sheet[k].Selectors[0][0] = onePart("x", "")
		if !sameRules(sheet[k+1:], again[k+1:]) {
			t.Error("two rules of an answer share memory")
		}
	}
	if !sameRules(impl.SheetIn(l), again) || !sameNodes(l, before) {
		t.Error("what is answered hangs on an earlier answer")
	}
}

func TestSheetInOfAnyNodes(t *testing.T) {
	d := dice(666666)
	pieces := []string{"a{}", "g{fill:red}", "#a .k,*{x:y!important}", "{", "}", "b", "/*", "*/", " ", "1{}", ";", "g{fill:", "!important", rulesFrom(0, 12), strings.Repeat(" ", 800)}
	for range 3000 {
		l := []impl.Node{elementIn(-1, oneOf(&d, "svg", "style"))}
		for count := d.below(20); len(l) <= count; {
			up, deep := someUp(&d, l)
			last := l[len(l)-1]
			if d.below(2) == 0 && (last.Name != "" || last.Up != up) {
				l = append(l, textIn(up, oneOf(&d, pieces...)+oneOf(&d, pieces...)))
			} else if deep < impl.MaxDeep {
				l = append(l, elementIn(up, oneOf(&d, "style", "style", "g")))
			}
		}
		if got := impl.SheetIn(l); !sameRules(got, sheetInAsTold(l)) {
			t.Fatalf("%v: %v", l, got)
		}
	}
}
