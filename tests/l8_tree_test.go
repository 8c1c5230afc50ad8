package tests

import (
	"slices"
	"strconv"
	"strings"
	"testing"

	"loop.example/g00137/impl"
)

// treeOf reads nodes from their text; one that cannot be read is a fault of the test.
func treeOf(t *testing.T, s string) []impl.Node {
	t.Helper()
	doc := impl.ReadMarks(s)
	if doc.Code != impl.MarkOk {
		t.Fatalf("%q: code %d at %d", s, doc.Code, doc.At)
	}
	return doc.Nodes
}

// badTrees are nodes that are not good in each way; their elements are groups, have the ids i0, i1 and so on, and name the first one.
func badTrees() map[string][]impl.Node {
	all := badNodes()
	for _, s := range badTexts()[:4] {
		all["the text "+strconv.Quote(s)] = []impl.Node{elementIn(-1, "svg"), textIn(0, s)}
		all["the value "+strconv.Quote(s)] = []impl.Node{elementIn(-1, "svg"), elementIn(0, "rect", "x", s)}
	}
	for _, s := range badNames()[:8] {
		all["the name "+strconv.Quote(s)] = []impl.Node{elementIn(-1, "svg"), elementIn(0, s), elementIn(0, "rect")}
		all["the attribute "+strconv.Quote(s)] = []impl.Node{elementIn(-1, "svg"), elementIn(0, "rect", s, "")}
	}
	for name, l := range all {
		l = cloneNodes(l)
		for k := range l {
			if l[k].Name == "a" || l[k].Name == "b" || l[k].Name == "e" {
				l[k].Name = "g"
			}
			if l[k].Name != "" {
				l[k].Attrs = append(l[k].Attrs, impl.Attr{Name: "id", Value: "i" + strconv.Itoa(k)}, impl.Attr{Name: "href", Value: "#i0"})
			}
		}
		all[name] = l
	}
	return all
}

func checkNodeOf(t *testing.T, l []impl.Node, id string, want int) {
	t.Helper()
	if got := impl.NodeOf(l, id); got != want {
		t.Errorf("%.300v: NodeOf %q: %d, not %d", l, id, got, want)
	}
}

func TestNodeOfSomeNodes(t *testing.T) {
	l := treeOf(t, `<svg id="root">text<g id="a" class="b"><rect id="c"/></g><x:y.z id="a"/><style id="s">t</style><rect id=""/><g ID="d" xml:id="e" Id="f" name="g"/><use id="c"/><circle id=" a "/><g id="#a"/><path id="h i"/><line id="`+"&#233;"+`"/></svg>`)
	for id, want := range map[string]int{
		"root": 0, "a": 2, "c": 3, "s": 5, " a ": 10, "#a": 11, "h i": 12, "\u00e9": 13,
		"": -1, "b": -1, "d": -1, "e": -1, "f": -1, "g": -1, "A": -1, "Root": -1, " a": -1, "a ": -1, "h": -1, "i": -1, "aa": -1, "id": -1, "text": -1, "t": -1, "\xff": -1, "a\x00": -1, "e\u0301": -1,
		strings.Repeat("a", 100000): -1,
	} {
		checkNodeOf(t, l, id, want)
	}
	for _, s := range []string{`<svg/>`, `<svg id=""/>`, `<svg><g id=""/><g/></svg>`, `<svg ID="a">a</svg>`, `<svg class="a"><a/></svg>`} {
		checkNodeOf(t, treeOf(t, s), "", -1)
		checkNodeOf(t, treeOf(t, s), "a", -1)
	}
	checkNodeOf(t, treeOf(t, `<svg id=""><g id=""/><g id="a"/></svg>`), "a", 2)
	checkNodeOf(t, treeOf(t, `<svg id="a"><g id="a"/></svg>`), "a", 0)
	checkNodeOf(t, treeOf(t, `<svg x="1" y="2" id="a"/>`), "a", 0)
}

func TestNodeOfEachPlace(t *testing.T) {
	for _, name := range strings.Fields("svg g symbol use defs rect circle ellipse line polyline polygon path style linearGradient stop clipPath title _ x:y") {
		for first := range impl.MaxNodes {
			l := flat(impl.MaxNodes)
			for k := first; k < len(l); k++ {
				if l[k].Name != "" {
					l[k] = elementIn(l[k].Up, name, "x", "y", "id", "it")
				}
			}
			want := first
			if first%2 == 0 && first > 0 {
				want = first + 1
			}
			checkNodeOf(t, l, "it", want)
		}
	}
}

func TestNodeOfBadNodes(t *testing.T) {
	for name, l := range badTrees() {
		for _, id := range []string{"i0", "i1", "i2", "", "none", "i" + strconv.Itoa(len(l)-1)} {
			if got := impl.NodeOf(l, id); got != 0 {
				t.Errorf("%s: %q: %d", name, id, got)
			}
		}
	}
}

func TestHrefOfSomeNodes(t *testing.T) {
	for value, want := range map[string]string{
		"#a": "a", "#": "", "": "", "a": "", "a#b": "", "a#": "", "##a": "#a", "##": "#", "###": "##", "# a": " a", "#a ": "a ", "#a#b": "a#b",
		" #a": "", "\t#a": "", "url(#a)": "", "x.svg#a": "", "#\xff\x00": "\xff\x00", "\xff#a": "", "\u00e9#a": "", "#\u00e9": "\u00e9", "\uff03a": "", "%23a": "", "#" + word30: word30,
	} {
		others := []string{"#other", "other", "", "#"}
		for _, name := range []string{"use", "a", "rect", "linearGradient", "", "\xff"} {
			checkHref(t, elementIn(0, name, "href", value), want)
			checkHref(t, elementIn(-7, name, "xlink:href", value), want)
			checkHref(t, elementIn(0, name, "x", "#x", "href", value, "y", "#y"), want)
			checkHref(t, elementIn(0, name, "x", "#x", "xlink:href", value, "y", "#y"), want)
			for _, other := range others {
				checkHref(t, elementIn(0, name, "href", value, "xlink:href", other), want)
				checkHref(t, elementIn(0, name, "xlink:href", other, "href", value), want)
				checkHref(t, elementIn(0, name, "href", value, "href", other), want)
				checkHref(t, elementIn(0, name, "xlink:href", value, "xlink:href", other), want)
			}
		}
	}
	for _, name := range []string{"Href", "HREF", "hreF", "xlink:Href", "Xlink:href", "xlink", "href:xlink", "xlink:href:", "src", "id", "", " href", "href "} {
		checkHref(t, elementIn(0, "use", name, "#a"), "")
	}
	checkHref(t, impl.Node{}, "")
	checkHref(t, textIn(0, "#a"), "")
	checkHref(t, impl.Node{Text: "#a", Attrs: []impl.Attr{{Name: "href", Value: "#b"}}}, "b")
	checkHref(t, elementIn(0, "use", append(manyAttrs(1000), "href", "#a")...), "a")
}

func checkHref(t *testing.T, n impl.Node, want string) {
	t.Helper()
	if got := impl.HrefOf(n); got != want {
		t.Errorf("%.300v: HrefOf: %q, not %q", n, got, want)
	}
}

func checkUses(t *testing.T, l []impl.Node, k int, want ...int) {
	t.Helper()
	if got, ok := impl.UsesOf(l, k); !slices.Equal(got, want) || !ok {
		t.Errorf("%.500v: UsesOf %d: %v, %v; not %v", l, k, got, ok, want)
	}
}

func checkNoUses(t *testing.T, l []impl.Node, k int) {
	t.Helper()
	if got, ok := impl.UsesOf(l, k); len(got) != 0 || ok {
		t.Errorf("%.500v: UsesOf %d: %v, %v", l, k, got, ok)
	}
}

func TestUsesOfSomeNodes(t *testing.T) {
	l := treeOf(t, `<svg id="r"><use href="#e"/><g id="a"><g id="b"><use href="#d" id="u"/>text<defs><use href="#c"/></defs></g><use href="#d"/><use href="#none"/><use/><use href=""/><use href="c"/><use xlink:href="#u"/></g><g id="c"><use href="#a"/></g><g id="d"/><use id="e" href="#e"><use href="#r"/></use><a href="#a"/><Use href="#a"/></svg>`)
	for k, want := range map[int][]int{
		0:  {0, 2, 4, 14, 16, 17},
		1:  {17},
		2:  {4, 14, 16},
		3:  {14, 16},
		4:  {16},
		6:  {14},
		7:  {14},
		8:  {16},
		9:  {},
		10: {},
		11: {},
		12: {},
		13: {4},
		14: {2},
		15: {2},
		16: {},
		17: {0, 17},
		18: {0},
		19: {},
		20: {},
	} {
		checkUses(t, l, k, want...)
	}
	checkNoUses(t, l, 5)
}

func TestUsesOfTheFirstOfAnId(t *testing.T) {
	l := treeOf(t, `<svg><g id="a"/><use href="#a" id="b"/><rect id="a"/><use href="#b"/><rect id="b"/><use id=""/><use href="#"/></svg>`)
	checkUses(t, l, 0, 1, 2)
	checkUses(t, l, 2, 1)
	checkUses(t, l, 4, 2)
	checkUses(t, l, 6)
	checkUses(t, l, 7)
	for _, k := range []int{1, 3, 5} {
		checkUses(t, l, k)
	}
	// A root that is a use, elements of any name that are used, and uses of what is around them.
	l = treeOf(t, `<use id="r" href="#s"><style id="s"/><defs id="d"><use href="#d"/><use href="#r"/></defs></use>`)
	checkUses(t, l, 0, 0, 1, 2)
	checkUses(t, l, 2, 0, 2)
	checkUses(t, l, 3, 2)
	checkUses(t, l, 4, 0)
}

func TestUsesOfManyNodes(t *testing.T) {
	// Each element uses the one as far from the end as it is from the beginning.
	l := []impl.Node{elementIn(-1, "svg", "id", "i0")}
	var all []int
	for k := 1; k < impl.MaxNodes; k++ {
		l = append(l, elementIn(0, "use", "id", "i"+strconv.Itoa(k), "href", "#i"+strconv.Itoa(impl.MaxNodes-k)))
		all = append(all, k)
	}
	checkUses(t, l, 0, all...)
	for k := 1; k < impl.MaxNodes; k++ {
		checkUses(t, l, k, impl.MaxNodes-k)
	}
	deepest := tower(impl.MaxDeep)
	deepest[impl.MaxDeep-1] = elementIn(impl.MaxDeep-2, "use", "href", "#x")
	deepest[4].Attrs = []impl.Attr{{Name: "id", Value: "x"}}
	for k := range deepest {
		checkUses(t, deepest, k, 4)
	}
	for k := range deepest {
		deepest[k] = elementIn(k-1, "use", "id", "i"+strconv.Itoa(k), "href", "#i"+strconv.Itoa(k/2))
	}
	checkUses(t, deepest, 0, 0, 1, 2, 3, 4)
	checkUses(t, deepest, 5, 2, 3, 4)
	checkUses(t, deepest, 9, 4)
}

func TestUsesOfOtherNumbers(t *testing.T) {
	for name, l := range goodNodesOfAllKinds() {
		for k, n := range l {
			if n.Name == "" {
				checkNoUses(t, l, k)
			} else if got, ok := impl.UsesOf(l, k); len(got) != 0 || !ok {
				t.Errorf("%s: %d: %v, %v", name, k, got, ok)
			}
		}
		for _, k := range otherNumbers(len(l)) {
			checkNoUses(t, l, k)
		}
	}
	for name, l := range badTrees() {
		for _, k := range append(otherNumbers(len(l)), 0, 1, 2, len(l)-1) {
			if got, ok := impl.UsesOf(l, k); len(got) != 0 || ok {
				t.Errorf("%s: %d: %v, %v", name, k, got, ok)
			}
		}
		if got, ok := impl.HasCycle(l); got || ok {
			t.Errorf("%s: HasCycle: %v, %v", name, got, ok)
		}
	}
}

func checkCycle(t *testing.T, s string, want bool) {
	t.Helper()
	if got, ok := impl.HasCycle(treeOf(t, s)); got != want || !ok {
		t.Errorf("%s: HasCycle: %v, %v", s, got, ok)
	}
}

func TestHasCycleOfSomeNodes(t *testing.T) {
	for _, s := range []string{
		`<svg/>`,
		`<svg id="a"><g id="b"/>text</svg>`,
		`<svg><use/><use href="#"/><use href="#none"/><use href="a" id="a"/><use href="" id=""/></svg>`,
		`<svg><rect id="a"/><use href="#a"/></svg>`,
		`<svg><use href="#a"/><rect id="a"/></svg>`,
		`<svg><rect id="a"/><use href="#a"/><use href="#a"/><use href="#a"/></svg>`,
		`<svg><rect id="a"/><use id="b" href="#a"/><use id="c" href="#b"/><use id="d" href="#c"/><use href="#d"/></svg>`,
		`<svg><g id="a"><use href="#b"/><use href="#c"/></g><g id="b"><use href="#c"/></g><g id="c"><use href="#d"/></g><rect id="d"/><use href="#a"/></svg>`,
		// Beside one another, not around: neither of these reaches itself.
		`<svg><g id="a"><use id="u" href="#b"/></g><g><use href="#u"/><g id="b"/></g></svg>`,
		`<svg><g><g id="a"/><use href="#a"/></g></svg>`,
		// What is not called use uses nothing.
		`<svg id="a"><a href="#a"/><Use href="#a"/><g href="#a"/><linearGradient id="l" href="#l"/></svg>`,
		// The first of an id counts: the second one is not used.
		`<svg><rect id="a"/><g id="a"><use href="#a"/></g></svg>`,
		`<svg><rect id="a"/><use id="a" href="#a"/></svg>`,
		// href counts ahead of xlink:href.
		`<svg id="a"><use href="" xlink:href="#a"/><use href="#b" xlink:href="#a"/><rect id="b"/></svg>`,
		`<use href="#a"><rect id="a"/></use>`,
	} {
		checkCycle(t, s, false)
	}
	for _, s := range []string{
		`<use id="a" href="#a"/>`,
		`<svg><use id="a" href="#a"/></svg>`,
		`<svg><use id="a" xlink:href="#a"/></svg>`,
		`<svg id="a"><use href="#a"/></svg>`,
		`<svg id="a"><g><g><g><use href="#a"/></g></g></g></svg>`,
		`<svg><g id="a"><g><use href="#a"/></g></g></svg>`,
		`<svg><defs><g id="a"><use href="#a"/></g></defs></svg>`,
		`<svg><defs><use id="a" href="#a"/></defs></svg>`,
		`<svg><title id="a"><use href="#a"/></title></svg>`,
		`<svg><g display="none"><use id="a" href="#a"/></g></svg>`,
		`<svg><rect id="a"><use href="#a"/></rect></svg>`,
		`<svg><use id="a" href="#b"/><use id="b" href="#a"/></svg>`,
		`<svg><g id="a"><use href="#b"/></g><g id="b"><use href="#a"/></g></svg>`,
		`<svg><g id="a"><use href="#b"/></g><g id="b"><use href="#c"/></g><g id="c"><use href="#a"/></g></svg>`,
		`<svg><g id="c"><use href="#a"/></g><g id="b"><use href="#c"/></g><g id="a"><use href="#b"/></g></svg>`,
		`<svg><g id="b"><use href="#c"/></g><g id="c"><use href="#a"/></g><g id="a"><use href="#b"/></g></svg>`,
		`<svg><rect id="d"/><use href="#d"/><g><g id="a"><use href="#d"/><use href="#b"/></g></g><g id="b"><g><use href="#d"/><use href="#a"/></g></g></svg>`,
		// By way of what stands below one that is used.
		`<svg><g id="a"><use href="#c"/></g><g id="b"><use href="#a"/></g><g id="c"><g><use href="#b"/></g></g></svg>`,
		`<svg><symbol id="s"><use href="#g"/></symbol><g id="g"><use href="#s"/></g></svg>`,
		`<use href="#a"><g id="a"><use id="b" href="#b"/></g></use>`,
		`<svg><use id="a" href="#b"><use id="b" href="#a"/></use></svg>`,
		`<use id="r" href="#a"><g id="a"/><use href="#r"/></use>`,
	} {
		checkCycle(t, s, true)
	}
}

// ringOf answers the text of count uses, each of which uses the next one, and the last one the one of that number.
func ringOf(count, back int) string {
	out := "<svg><defs>"
	for k := range count {
		next := k + 1
		if next == count {
			next = back
		}
		out += `<use id="u` + strconv.Itoa(k) + `" href="#u` + strconv.Itoa(next) + `"/>`
	}
	return out + "</defs></svg>"
}

func TestHasCycleOfRings(t *testing.T) {
	for _, count := range []int{1, 2, 3, 4, 10, 29, 30, 31, 57, 58} {
		checkCycle(t, ringOf(count, count), false)
		for _, back := range []int{0, count / 2, count - 1} {
			checkCycle(t, ringOf(count, back), true)
		}
	}
	// Rings whose elements stand in any order.
	for step := 1; step < 59; step++ {
		l := []impl.Node{elementIn(-1, "svg")}
		for k := range 59 {
			l = append(l, elementIn(0, "use", "id", "u"+strconv.Itoa(k), "href", "#u"+strconv.Itoa((k+step)%59)))
		}
		if got, ok := impl.HasCycle(l); !got || !ok {
			t.Errorf("step %d: %v, %v", step, got, ok)
		}
		for cut := 1; cut < len(l); cut++ {
			open := slices.Clone(l)
			open[cut] = elementIn(0, "rect", "id", "u"+strconv.Itoa(cut-1))
			if got, ok := impl.HasCycle(open); got || !ok {
				t.Errorf("step %d, cut at %d: %v, %v", step, cut, got, ok)
			}
		}
	}
}

// usesAsTold goes from each use up to the root to see whether k is on its way.
func usesAsTold(l []impl.Node, k int) []int {
	var out []int
	for target, m := range l {
		id, _ := impl.AttrOf(m, "id")
		for i := range l {
			around := false
			for up := i; up >= 0; up = l[up].Up {
				around = around || up == k
			}
			if around && l[i].Name == "use" && id != "" && impl.HrefOf(l[i]) == id && firstWith(l, id) == target && !slices.Contains(out, target) {
				out = append(out, target)
			}
		}
	}
	return out
}

func firstWith(l []impl.Node, id string) int {
	for k, n := range l {
		if own, found := impl.AttrOf(n, "id"); found && own == id && id != "" {
			return k
		}
	}
	return -1
}

// reachedAsTold follows uses from k, at most as often as there are nodes.
func reachedAsTold(l []impl.Node, k int) bool {
	from := []int{k}
	for range l {
		var next []int
		for _, i := range from {
			for _, target := range usesAsTold(l, i) {
				if target == k {
					return true
				}
				if !slices.Contains(next, target) {
					next = append(next, target)
				}
			}
		}
		from = next
	}
	return false
}

func TestUsesAndCyclesOfAnyNodes(t *testing.T) {
	d := dice(88)
	counts := map[bool]int{}
	for range 1500 {
		l := someTree(&d)
		want := false
		for k := range l {
			if l[k].Name == "" {
				checkNoUses(t, l, k)
				continue
			}
			checkUses(t, l, k, usesAsTold(l, k)...)
			want = want || reachedAsTold(l, k)
			id, _ := impl.AttrOf(l[k], "id")
			checkNodeOf(t, l, id, firstWith(l, id))
		}
		counts[want]++
		if got, ok := impl.HasCycle(l); got != want || !ok {
			t.Fatalf("%v: HasCycle: %v, %v", l, got, ok)
		}
	}
	if counts[true] < 300 || counts[false] < 300 {
		t.Error(counts)
	}
}

func TestTreeAnswersNewMemory(t *testing.T) {
	for _, name := range []string{"href", "xlink:href"} {
		value := "#" + strings.Repeat("word", 3)
		first := impl.HrefOf(elementIn(0, "use", name, value))
		again := impl.HrefOf(elementIn(0, "use", name, value))
		if first != value[1:] || sharesText(first, value) || sharesText(first, again) {
			t.Errorf("%s: %q shares memory", name, first)
		}
	}
	l := treeOf(t, `<svg id="r"><use href="#r"/><use href="#a"/><g id="a"/><use href="#b"/><g id="b"/></svg>`)
	uses, _ := impl.UsesOf(l, 0)
	other, _ := impl.UsesOf(l, 0)
	fill(uses, 7)
	for k := range uses {
		uses[k] = 7
	}
	if !slices.Equal(other, []int{0, 3, 5}) {
		t.Errorf("two answers share memory: %v", other)
	}
	checkUses(t, l, 0, 0, 3, 5)
}

func TestTreeWritesIntoNoArgument(t *testing.T) {
	l := roomyNodes(treeOf(t, `<svg><g id="a"/><use href="#a"/><use href="#u"/>text<rect/><use/></svg>`), "id", "u", "href", "#a")
	l[:len(l)+2][len(l)] = elementIn(0, "use", "id", "u", "href", "#u")
	before := cloneNodes(behindNodes(l))
	checkNodeOf(t, l, "a", 1)
	checkNodeOf(t, l, "u", -1)
	checkHref(t, l[2], "a")
	checkHref(t, l[6], "")
	checkUses(t, l, 0, 1)
	checkUses(t, l, 3)
	checkUses(t, l, 6)
	checkNoUses(t, l, 4)
	checkNoUses(t, l, len(l))
	if got, ok := impl.HasCycle(l); got || !ok {
		t.Errorf("HasCycle: %v, %v", got, ok)
	}
	if !sameNodes(behindNodes(l), before) {
		t.Error("an argument is written into")
	}
}
