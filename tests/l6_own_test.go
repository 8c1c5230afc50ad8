package tests

import (
	"slices"
	"sort"
	"strconv"
	"strings"
	"testing"

	"loop.example/g00137/impl"
)

// propertiesAsTold are the chapter's names, their first values, and whether they are inherited.
func propertiesAsTold() (names, firsts []string, inherited map[string]bool) {
	names = strings.Fields("clip-path color display fill fill-opacity fill-rule offset opacity stop-color stroke stroke-dasharray stroke-linecap stroke-linejoin stroke-opacity stroke-width visibility")
	firsts = strings.Fields("none black inline black 1 nonzero 0 1 black none none butt miter 1 1 visible")
	inherited = map[string]bool{}
	for _, name := range strings.Fields("color fill fill-opacity fill-rule stroke stroke-dasharray stroke-linecap stroke-linejoin stroke-opacity stroke-width visibility") {
		inherited[name] = true
	}
	return names, firsts, inherited
}

func firstAsTold(name string) string {
	names, firsts, _ := propertiesAsTold()
	return firsts[slices.Index(names, name)]
}

func inheritsAsTold(name string) bool {
	_, _, inherited := propertiesAsTold()
	return inherited[name]
}

// noProperties are names that are none.
func noProperties() []string {
	l := []string{"", " ", "*", "inherit", "style", "class", "id", "transform", "width", "x", "fill ", " fill", "fill\n", "fil", "fills", "filll", "stroke_width", "strokewidth", "stroke-", "clip", "path", "none", "black", "fill\x00", "\xff", "f\u0131ll", strings.Repeat("fill", 1000)}
	names, _, _ := propertiesAsTold()
	for _, name := range names {
		l = append(l, strings.ToUpper(name), strings.ToUpper(name[:1])+name[1:], name+"-", "-"+name, name[1:], name+" "+name)
	}
	return l
}

func TestPropertiesWhole(t *testing.T) {
	names, firsts, inherited := propertiesAsTold()
	if len(names) != 16 || len(firsts) != 16 || len(inherited) != 11 || !sort.StringsAreSorted(names) {
		t.Fatal("the test itself is wrong")
	}
	if got := impl.Properties(); !slices.Equal(got, names) {
		t.Errorf("Properties: %q", got)
	}
	for k, name := range names {
		if got, ok := impl.FirstValue(name); got != firsts[k] || !ok {
			t.Errorf("FirstValue(%q): %q, %v", name, got, ok)
		}
		if impl.Inherits(name) != inherited[name] {
			t.Errorf("Inherits(%q): %v", name, !inherited[name])
		}
	}
	for _, name := range noProperties() {
		if got, ok := impl.FirstValue(name); got != "" || ok {
			t.Errorf("FirstValue(%q): %q, %v", name, got, ok)
		}
		if impl.Inherits(name) {
			t.Errorf("Inherits(%q)", name)
		}
	}
}

func TestPropertiesMayBeWrittenInto(t *testing.T) {
	names, _, inherited := propertiesAsTold()
	for range 3 {
		l := impl.Properties()
		other := impl.Properties()
		fill(l, "behind")
		for k := range l {
			l[k] = "opacity"
		}
		if !slices.Equal(other, names) || !slices.Equal(impl.Properties(), names) {
			t.Fatal("an answer is changed by what is written into another one")
		}
		for _, name := range names {
			if got, _ := impl.FirstValue(name); got != firstAsTold(name) || impl.Inherits(name) != inherited[name] {
				t.Fatalf("%s is changed", name)
			}
		}
	}
}

// sheetFor reads rules; a text with a rule that is passed over is a fault of the test.
func sheetFor(t *testing.T, s string) []impl.Rule {
	t.Helper()
	l, ok := impl.ReadSheet(s)
	if !ok || len(l) != strings.Count(s, "{") {
		t.Fatalf("%q is read as %v", s, l)
	}
	return l
}

func checkOwn(t *testing.T, l []impl.Node, sheet []impl.Rule, k int, name, want string) {
	t.Helper()
	if got, ok := impl.OwnValue(l, sheet, k, name); got != want || !ok {
		t.Errorf("%v %q %d: OwnValue of %s: %q, %v; not %q", l, sheetAsTold(sheet), k, name, got, ok, want)
	}
}

func checkNoOwn(t *testing.T, l []impl.Node, sheet []impl.Rule, k int, name string) {
	t.Helper()
	if got, ok := impl.OwnValue(l, sheet, k, name); got != "" || ok {
		t.Errorf("%.200v %d rules, %d: OwnValue of %q: %q, %v", l, len(sheet), k, name, got, ok)
	}
}

// wayToSay is one way to say fill: as an attribute, by a rule of this selector, or in the style.
type wayToSay struct {
	by        string
	important bool
}

// waysInOrder count each more than the ones ahead; the rules weigh 0, 1, 2, 3, 10, 11, 20, 100, 112 and 201.
func waysInOrder() []wayToSay {
	selectors := []string{"*", "g", "svg g", "svg a g", ".k", "g.k", ".k.l", "#a", "svg a #a.k", "svg #x #a"}
	l := []wayToSay{{by: "attribute"}}
	for _, s := range selectors {
		l = append(l, wayToSay{by: s})
	}
	l = append(l, wayToSay{by: "style"})
	for _, s := range selectors {
		l = append(l, wayToSay{by: s, important: true})
	}
	return append(l, wayToSay{by: "style", important: true})
}

// saidInWays answers an element (node 2) for which fill is said in these ways, placed in this order, and the rules; each value is v and the way's place in waysInOrder.
func saidInWays(t *testing.T, places []int) ([]impl.Node, []impl.Rule) {
	t.Helper()
	l := []impl.Node{elementIn(-1, "svg"), elementIn(0, "a", "id", "x"), elementIn(1, "g", "id", "a", "class", "k l")}
	sheet, style := "", ""
	for _, place := range places {
		way := waysInOrder()[place]
		value := "v" + strconv.Itoa(place)
		said := "fill:" + value
		if way.important {
			said += " !important"
		}
		switch way.by {
		case "attribute":
			l[2].Attrs = append(l[2].Attrs, impl.Attr{Name: "fill", Value: value})
		case "style":
			style += said + ";"
		default:
			sheet += way.by + "{" + said + "}"
		}
	}
	if style != "" {
		l[2].Attrs = append(l[2].Attrs, impl.Attr{Name: "style", Value: style})
	}
	return l, sheetFor(t, sheet)
}

func checkWays(t *testing.T, places []int) {
	t.Helper()
	l, sheet := saidInWays(t, places)
	want := "v" + strconv.Itoa(slices.Max(places))
	checkOwn(t, l, sheet, 2, "fill", want)
	if got, ok := impl.ValueOf(l, sheet, []int{0, 1, 2}, "fill"); got != want || !ok {
		t.Errorf("%v: ValueOf: %q, %v", places, got, ok)
	}
}

func TestOwnValueEachTwoWays(t *testing.T) {
	for i := range waysInOrder() {
		checkWays(t, []int{i})
		for j := range i {
			checkWays(t, []int{i, j})
			checkWays(t, []int{j, i})
		}
	}
}

func TestOwnValueOfManyWays(t *testing.T) {
	d := dice(616)
	count := len(waysInOrder())
	for range 3000 {
		var places []int
		for range 1 + d.below(8) {
			if place := d.below(count); !slices.Contains(places, place) {
				places = append(places, place)
			}
		}
		checkWays(t, places)
	}
	all := make([]int, count)
	for k := range all {
		all[k] = k
	}
	for k := 1; k <= count; k++ {
		checkWays(t, all[:k])
		back := slices.Clone(all[:k])
		slices.Reverse(back)
		checkWays(t, back)
	}
}

func TestOwnValueOfOneWeightByPlace(t *testing.T) {
	l := []impl.Node{elementIn(-1, "g", "id", "a", "class", "k l", "fill", "attribute")}
	for text, want := range map[string]string{
		"g{fill:1}g{fill:2}":                                 "2",
		".k{fill:1}.l{fill:2}":                               "2",
		".l{fill:1}.k{fill:2}":                               "2",
		"g{fill:1}g{fill:2}g{fill:3}":                        "3",
		"g{fill:1}.k{fill:2}g{fill:3}.k{fill:4}g{fill:5}":    "4",
		"*{fill:1}*{fill:2}":                                 "2",
		"g{fill:1;fill:2}":                                   "2",
		"g{fill:2;stroke:3;fill:1}":                          "1",
		"g{fill:1;fill:2}g{stroke:3}":                        "2",
		"g{fill:1 !important;fill:2}":                        "1",
		"g{fill:2;fill:1 !important}":                        "1",
		"g{fill:1!important;fill:2!important}":               "2",
		"g{fill:1!important}g{fill:2!important}":             "2",
		".k{fill:1!important}g{fill:2!important}":            "1",
		"g{fill:1!important}.k{fill:2!important}":            "2",
		"g{fill:1!important}#a{fill:2}":                      "1",
		"#a{fill:2}*{fill:1!important}":                      "1",
		"#a{fill:1!important;fill:2}.k{fill:3!important}":    "1",
		"#a{fill:1}.k{fill:2!important}g{fill:3!important}":  "2",
		"g.k{fill:1}.l{fill:2}.k.l{fill:3}g.l{fill:4}":       "3",
		"#a{stroke:1}g{fill:2}":                              "2",
		"#a{FILL:1}g{fill:2}":                                "1",
		"#a{fill-rule:1}*{fill:2}":                           "2",
		"#b{fill:1!important}.m{fill:2}h{fill:3}*{fill:4}":   "4",
		"#b{fill:1!important}g g{fill:2}svg{fill:3}":         "attribute",
		"#a{fill: two  words }":                              "two  words",
		"g{}.k{}#a{}":                                        "attribute",
		"g#a.k.l.k.l{fill:1}#a{fill:2}g{fill:3}":             "1",
		"g.k.l.k.l{fill:1}#a{fill:2}.k.l.k.l{fill:3}":        "2",
		"g.k.l.k.l{fill:1!important}#a{fill:2!important}":    "2",
		"g.k.l.k.l{fill:1!important}#a{fill:2}*{fill:3}":     "1",
		".k.k.k.k{fill:1}.k.k.k{fill:2}.k.k{fill:3}":         "1",
		"#a.k{fill:1}#a{fill:2}g#a{fill:3}":                  "1",
		"*.k{fill:1}.l{fill:2}":                              "2",
		".l{fill:1}*.k{fill:2}":                              "2",
		"*#a{fill:1}g#a{fill:2}#a{fill:3}":                   "2",
		"*{fill:inherit}":                                    "inherit",
		"g{fill:currentColor}":                               "currentColor",
		"g{fill:1}g{fill:2}*{fill:3}*{fill:4 !important}g{}": "4",
	} {
		checkOwn(t, l, sheetFor(t, text), 0, "fill", want)
	}
}

func TestOwnValueOfSeveralSelectors(t *testing.T) {
	l := []impl.Node{elementIn(-1, "svg", "id", "r"), elementIn(0, "g", "id", "a", "class", "k")}
	for text, want := range map[string]string{
		"*,#a{fill:1}.k{fill:2}":                     "1",
		"#a,*{fill:1}.k{fill:2}":                     "1",
		"*,#a,g{fill:1}.k{fill:2}":                   "1",
		"#b,*{fill:1}g{fill:2}":                      "2",
		"*,#b{fill:1}g{fill:2}":                      "2",
		"g{fill:2}#b,*,#r{fill:1}":                   "2",
		"h,g{fill:1}":                                "1",
		"g,h{fill:1}":                                "1",
		"g,g{fill:1}svg g{fill:2}":                   "2",
		"svg g{fill:2}g,g,g{fill:1}":                 "2",
		"#r #a,g{fill:1}#a.k{fill:2}":                "1",
		"#r #b,g{fill:1}#a.k{fill:2}":                "2",
		"g,.k{fill:1!important}svg g{fill:2}":        "1",
		"*,.k{fill:1!important}g{fill:2!important}":  "1",
		"*,.z{fill:1!important}g{fill:2!important}":  "2",
		".k,*{fill:1;fill:2}g{fill:3}*{fill:4}":      "2",
		"*,g,.k,#a,#r #a{fill:1}#r .k,#a{fill:2}g{}": "1",
	} {
		checkOwn(t, l, sheetFor(t, text), 1, "fill", want)
	}
	for _, text := range []string{"", "h{fill:1}", "#b,.z{fill:1}", "svg{fill:1}", "g g,#a #a{fill:1}", "g,#a{stroke:1}", "#r,g svg{fill:1!important}"} {
		checkNoOwn(t, l, sheetFor(t, text), 1, "fill")
	}
}

func TestOwnValueOfStyles(t *testing.T) {
	for style, want := range map[string]string{
		"fill:1":                                     "1",
		" fill : 1 ; ":                               "1",
		"fill:1;fill:2":                              "2",
		"fill:1;stroke:2":                            "1",
		"fill:1!important;fill:2":                    "1",
		"fill:2;fill:1 !important":                   "1",
		"fill:1!important;fill:2!important":          "2",
		"FILL:1":                                     "1",
		"fill:1;Fill:2":                              "2",
		"fIlL:1 !important;fill:2":                   "1",
		"1;;:;fill;fill:;fill:3":                     "3",
		"fill:1;fill:":                               "1",
		"/* fill:1 */fill:2/* fill:3 */":             "2",
		"fill:" + strings.Repeat("x", 60):            strings.Repeat("x", 60),
		"fill:1;fill:" + strings.Repeat("x", 61):     "1",
		"fill:1" + strings.Repeat(" ", 1500-6):       "1",
		strings.Repeat("n:v;", 11) + "fill:1;fill:2": "1",
		"fill:inherit":                               "inherit",
	} {
		checkOwn(t, []impl.Node{elementIn(-1, "g", "style", style)}, nil, 0, "fill", want)
		checkOwn(t, []impl.Node{elementIn(-1, "g", "fill", "attribute", "style", style)}, sheetFor(t, "g{fill:rule}"), 0, "fill", want)
		checkOwn(t, []impl.Node{elementIn(-1, "g", "style", style, "fill", "attribute")}, sheetFor(t, "g#a,*{fill:rule}"), 0, "fill", want)
	}
	for _, style := range []string{"", " ", "fill", "fill:", "fill:!important", "fill-rule:1", "fil:1", "{fill:1}", "g{fill:1}", "stroke:1", "fill:" + strings.Repeat("x", 61),
		"fill:1" + strings.Repeat(" ", 1501-6), strings.Repeat(";", 1500) + "fill:1", "fill:1;" + strings.Repeat("/* long */", 1000), strings.Repeat("n:v;", 12) + "fill:1"} {
		checkNoOwn(t, []impl.Node{elementIn(-1, "g", "style", style)}, nil, 0, "fill")
		checkOwn(t, []impl.Node{elementIn(-1, "g", "fill", "attribute", "style", style)}, nil, 0, "fill", "attribute")
	}
	for _, name := range []string{"Style", "STYLE", "styles", "css"} {
		checkNoOwn(t, []impl.Node{elementIn(-1, "g", name, "fill:1")}, nil, 0, "fill")
	}
}

func TestOwnValueOfAttributes(t *testing.T) {
	for said, want := range map[string]string{
		"red": "red", " red": "red", "red ": "red", "\t\n\r red\r\n\t ": "red", "a b": "a b", " a \n b ": "a \n b", "\u00a0": "\u00a0", "\u00a0 x\u2003": "\u00a0 x\u2003",
		"1 !important": "1 !important", "a;b": "a;b", "inherit ": "inherit", "/* c */": "/* c */", "\u00e9": "\u00e9",
		strings.Repeat("x", 5000): strings.Repeat("x", 5000), strings.Repeat(" ", 5000) + "x": "x",
	} {
		checkOwn(t, []impl.Node{elementIn(-1, "g", "fill", said)}, nil, 0, "fill", want)
		checkOwn(t, []impl.Node{elementIn(-1, "g", "fill", said)}, sheetFor(t, "h{fill:1}g{stroke:2}"), 0, "fill", want)
		checkOwn(t, []impl.Node{elementIn(-1, "g", "fill", said)}, sheetFor(t, "*{fill:1}"), 0, "fill", "1")
	}
	for _, said := range []string{"", " ", "\t", "\n", "\r", "\t\n\r ", strings.Repeat(" ", 5000)} {
		checkNoOwn(t, []impl.Node{elementIn(-1, "g", "fill", said)}, nil, 0, "fill")
		checkOwn(t, []impl.Node{elementIn(-1, "g", "fill", said)}, sheetFor(t, "*{fill:1}"), 0, "fill", "1")
		checkOwn(t, []impl.Node{elementIn(-1, "g", "fill", said, "style", "fill:2")}, nil, 0, "fill", "2")
	}
	for _, name := range []string{"Fill", "FILL", "fill-rule", "filll", "stroke", "svg:fill"} {
		checkNoOwn(t, []impl.Node{elementIn(-1, "g", name, "red")}, nil, 0, "fill")
	}
	family := []impl.Node{elementIn(-1, "g", "fill", "out"), elementIn(0, "g"), elementIn(1, "g", "fill", "in"), elementIn(0, "g", "fill", "beside")}
	checkOwn(t, family, nil, 0, "fill", "out")
	checkNoOwn(t, family, nil, 1, "fill")
	checkOwn(t, family, nil, 2, "fill", "in")
}

func TestOwnValueOfEachProperty(t *testing.T) {
	names, _, _ := propertiesAsTold()
	for _, name := range names {
		checkOwn(t, []impl.Node{elementIn(-1, "g", name, " v ")}, nil, 0, name, "v")
		checkOwn(t, []impl.Node{elementIn(-1, "g", "style", strings.ToUpper(name)+":v")}, nil, 0, name, "v")
		sheet := sheetFor(t, "g{"+name+":v}")
		checkOwn(t, []impl.Node{elementIn(-1, "g")}, sheet, 0, name, "v")
		for _, other := range names {
			if other != name {
				checkNoOwn(t, []impl.Node{elementIn(-1, "g", name, "v", "style", name+":v")}, sheet, 0, other)
			}
		}
		checkNoOwn(t, []impl.Node{elementIn(-1, "g")}, nil, 0, name)
	}
	for _, name := range noProperties() {
		sheet := []impl.Rule{ruleFor("g", decl(name, "v")), ruleFor("*", importantDecl(name, "v"))}
		l := []impl.Node{elementIn(-1, "g", "style", name+":v;width:1;x:1", "width", "1", "x", "1", "id", "1", "class", "1", "FILL", "1")}
		if !impl.GoodNodes(l) {
			l = []impl.Node{elementIn(-1, "g", "FILL", "1")}
		}
		checkNoOwn(t, l, sheet, 0, name)
		if got, ok := impl.ValueOf(l, sheet, []int{0}, name); got != "" || ok {
			t.Errorf("ValueOf of %q: %q, %v", name, got, ok)
		}
	}
}

func TestOwnValueOfRulesThatAreOdd(t *testing.T) {
	l := []impl.Node{elementIn(-1, "g", "class", "k", "fill", "attribute")}
	red := decl("fill", "red")
	for name, r := range map[string]impl.Rule{
		"an empty rule":           {},
		"no selectors":            {Decls: []impl.Decl{red}},
		"an empty list of them":   {Selectors: [][]impl.Part{}, Decls: []impl.Decl{red}},
		"no declarations":         {Selectors: [][]impl.Part{byType("g")}},
		"names in capitals":       ruleFor("g", decl("FILL", "red"), importantDecl("Fill", "red")),
		"names with blanks":       ruleFor("g", decl(" fill", "red"), decl("fill ", "red"), decl("", "red")),
		"a selector of no parts":  {Selectors: [][]impl.Part{{}}, Decls: []impl.Decl{red}},
		"a selector of nothing":   {Selectors: [][]impl.Part{nil, {{}}}, Decls: []impl.Decl{importantDecl("fill", "red")}},
		"five classes":            {Selectors: [][]impl.Part{{onePart("g", "", "k", "k", "k", "k", "k")}}, Decls: []impl.Decl{red}},
		"a selector of six parts": {Selectors: [][]impl.Part{slices.Repeat(byType("*"), 6)}, Decls: []impl.Decl{red}},
	} {
		checkOwn(t, l, []impl.Rule{r}, 0, "fill", "attribute")
		checkOwn(t, l, []impl.Rule{ruleFor("g", decl("fill", "blue")), r}, 0, "fill", "blue")
		if got, ok := impl.ValueOf(l, []impl.Rule{r}, []int{0}, "stroke"); got != "none" || !ok {
			t.Errorf("%s: ValueOf: %q, %v", name, got, ok)
		}
	}
	for _, sel := range badSelectors() {
		bad := impl.Rule{Selectors: [][]impl.Part{sel}, Decls: []impl.Decl{importantDecl("fill", "red")}}
		checkOwn(t, l, []impl.Rule{bad}, 0, "fill", "attribute")
		beside := impl.Rule{Selectors: [][]impl.Part{sel, byType("g"), sel}, Decls: []impl.Decl{red}}
		checkOwn(t, l, []impl.Rule{beside, ruleFor("*", decl("fill", "blue"))}, 0, "fill", "red")
	}
	long := strings.Repeat("x", 10000)
	checkOwn(t, l, []impl.Rule{ruleFor("g", slices.Repeat([]impl.Decl{decl("fill", "y")}, 100)...), ruleFor("g", decl("fill", long))}, 0, "fill", long)
}

func TestOwnValueOfMaxRules(t *testing.T) {
	l := []impl.Node{elementIn(-1, "g", "stroke", "attribute")}
	sheet := slices.Repeat([]impl.Rule{ruleFor("h", decl("fill", "no"))}, impl.MaxRules-1)
	sheet = append(sheet, ruleFor("g", decl("fill", "last")))
	checkOwn(t, l, sheet, 0, "fill", "last")
	for _, more := range []int{1, 2, 1000} {
		long := append(slices.Clone(sheet), slices.Repeat([]impl.Rule{{}}, more)...)
		for _, name := range []string{"fill", "stroke", "opacity"} {
			checkNoOwn(t, l, long, 0, name)
			if got, ok := impl.ValueOf(l, long, []int{0}, name); got != "" || ok {
				t.Errorf("ValueOf with %d rules too many: %q, %v", more, got, ok)
			}
		}
	}
}

func TestOwnValueOfOtherNumbers(t *testing.T) {
	sheet := sheetFor(t, "*{fill:red}")
	for name, l := range goodNodesOfAllKinds() {
		for k, n := range l {
			if got, ok := impl.OwnValue(l, sheet, k, "fill"); ok != (n.Name != "") || ok && got != "red" || !ok && got != "" {
				t.Errorf("%s %d: %q, %v", name, k, got, ok)
			}
		}
		for _, k := range otherNumbers(len(l)) {
			checkNoOwn(t, l, sheet, k, "fill")
		}
	}
	for name, l := range badNodes() {
		for _, k := range append(otherNumbers(len(l)), 0, 1, 2, len(l)-1) {
			if got, ok := impl.OwnValue(l, sheet, k, "fill"); got != "" || ok {
				t.Errorf("%s %d: %q, %v", name, k, got, ok)
			}
		}
	}
}

// told is one thing that is said for an element, with what it is put in order by.
type told struct {
	step, weight int
	value        string
}

// ownAsTold gathers all that is said, puts it in the chapter's order, and takes the last.
func ownAsTold(l []impl.Node, sheet []impl.Rule, k int, name string) (string, bool) {
	var all []told
	if value, _ := impl.AttrOf(l[k], name); strings.Trim(value, "\t\n\r ") != "" {
		all = append(all, told{1, -1, strings.Trim(value, "\t\n\r ")})
	}
	say := func(decls []impl.Decl, step, weight int) {
		for _, d := range decls {
			if d.Name == name {
				all = append(all, told{step + map[bool]int{true: 2}[d.Important], weight, d.Value})
			}
		}
	}
	for _, r := range sheet {
		weight := -1
		for _, sel := range r.Selectors {
			if matchesAsTold(l, k, sel) {
				w, _ := impl.WeightOf(sel)
				weight = max(weight, w)
			}
		}
		if weight >= 0 {
			say(r.Decls, 2, weight)
		}
	}
	style, _ := impl.AttrOf(l[k], "style")
	decls, _ := impl.ReadStyle(style)
	say(decls, 3, 0)
	sort.SliceStable(all, func(i, j int) bool {
		return all[i].step < all[j].step || all[i].step == all[j].step && all[i].weight < all[j].weight
	})
	if len(all) == 0 {
		return "", false
	}
	return all[len(all)-1].value, true
}

// someSheet answers rules that say fill, color and opacity.
func someSheet(d *dice) []impl.Rule {
	var l []impl.Rule
	for range d.below(6) {
		var r impl.Rule
		for range 1 + d.below(3) {
			sel := someMatching(d)
			r.Selectors = append(r.Selectors, sel[max(0, len(sel)-2):])
		}
		for range d.below(4) {
			r.Decls = append(r.Decls, impl.Decl{Name: oneOf(d, "fill", "fill", "color", "opacity", "FILL"), Value: oneOf(d, "inherit", "currentColor", "r"+strconv.Itoa(d.below(100))), Important: d.below(4) == 0})
		}
		l = append(l, r)
	}
	return l
}

func TestOwnValueOfAnyNodes(t *testing.T) {
	d := dice(6666)
	counts := map[bool]int{}
	for range 4000 {
		l, sheet := someStyled(&d), someSheet(&d)
		for k := range l {
			for _, name := range []string{"fill", "color", "opacity", "stroke"} {
				want, said := "", false
				if l[k].Name != "" {
					want, said = ownAsTold(l, sheet, k, name)
				}
				counts[said]++
				if got, ok := impl.OwnValue(l, sheet, k, name); got != want || ok != said {
					t.Fatalf("%v %q %d %s: %q, %v; not %q, %v", l, sheetAsTold(sheet), k, name, got, ok, want, said)
				}
			}
		}
	}
	if counts[true] < 10000 || counts[false] < 10000 {
		t.Error(counts)
	}
}

func TestOwnValueAnswersNewMemory(t *testing.T) {
	long := strings.Repeat("value", 3)
	blank := " " + strings.Repeat("blanks", 3) + " "
	style := "fill:" + strings.Repeat("style", 3)
	name := "fi" + strings.Repeat("l", 2)
	sheet := []impl.Rule{ruleFor("rule", decl("fill", strings.Repeat("rule", 3)), importantDecl("stroke", strings.Repeat("rule", 4)))}
	for _, l := range [][]impl.Node{
		{elementIn(-1, "g", "fill", long)},
		{elementIn(-1, "g", "fill", blank)},
		{elementIn(-1, "g", "style", style)},
		{elementIn(-1, "rule", "fill", long)},
	} {
		for range 2 {
			own, ok := impl.OwnValue(l, sheet, 0, name)
			value, _ := impl.ValueOf(l, sheet, []int{0, 0}, name)
			if own == "" || own != value || !ok {
				t.Fatalf("%q, %q, %v", own, value, ok)
			}
			for _, given := range append(wordsOf(sheet), l[0].Attrs[0].Value, name) {
				if sharesText(own, given) || sharesText(value, given) {
					t.Errorf("%q shares memory with %q", own, given)
				}
			}
		}
	}
}
