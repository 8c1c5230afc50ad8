package tests

import (
	"math"
	"slices"
	"strings"
	"testing"

	"loop.example/g00137/impl"
)

// partsFor reads a selector; one that is none is a fault of the test.
func partsFor(t *testing.T, s string) []impl.Part {
	t.Helper()
	l, ok := impl.ReadSelector(s)
	if !ok {
		t.Fatalf("%q is no selector", s)
	}
	return l
}

func checkMatches(t *testing.T, l []impl.Node, k int, want bool, selectors ...string) {
	t.Helper()
	for _, s := range selectors {
		if got := impl.Matches(l, k, partsFor(t, s)); got != want {
			t.Errorf("%v %d: Matches %q: %v", l, k, s, got)
		}
	}
}

func checkOnePart(t *testing.T, n impl.Node, fitting string, others string) {
	t.Helper()
	l := []impl.Node{n}
	checkMatches(t, l, 0, true, strings.Fields(fitting)...)
	checkMatches(t, l, 0, false, strings.Fields(others)...)
}

func TestMatchesTypes(t *testing.T) {
	checkOnePart(t, elementIn(-1, "g"), "g *", "h G gg -g g- #a *#a g#a .k *.k g.k #g .g g#a.k")
	checkOnePart(t, elementIn(-1, "_"), "_ *", "__ - a")
	checkOnePart(t, elementIn(-1, "a.b"), "*", "a b .b .a a.b")
	checkOnePart(t, elementIn(-1, "a:b"), "*", "a b")
	checkOnePart(t, elementIn(-1, strings.Repeat("a", 30)), "* "+strings.Repeat("a", 30), strings.Repeat("a", 29))
}

func TestMatchesIds(t *testing.T) {
	checkOnePart(t, elementIn(-1, "g", "id", "a"), "g * #a g#a *#a", "h #A #b #aa #- h#a #a.k *#a.a .a #g")
	checkOnePart(t, elementIn(-1, "g", "id", word30), "#"+word30, "#a #"+word30[:29])
	for _, id := range []string{"", " ", " a", "a ", "a b", "b a", "\ta", "#a", ".a", "aa", "a\u00a0"} {
		checkOnePart(t, elementIn(-1, "g", "id", id), "g *", "#a g#a *#a")
	}
	checkOnePart(t, elementIn(-1, "g", "Id", "a", "ID", "a", "iD", "a", "name", "a", "xml:id", "a"), "g", "#a")
	checkOnePart(t, elementIn(-1, "g", "x", "b", "class", "c", "id", "a"), "#a .c #a.c", "#b #c .a .b")
}

func TestMatchesClasses(t *testing.T) {
	checkOnePart(t, elementIn(-1, "g", "class", "k"), "g * .k g.k *.k .k.k .k.k.k.k", "h .K .kk .l .k.l .l.k #k h.k .- #a.k")
	many := elementIn(-1, "g", "class", "\tkey\nlot\r\nm  n-o\rp \n")
	checkOnePart(t, many, ".key .lot .m .n-o .p .key.lot.m.n-o .p.m.key g.p.p *.lot.key",
		".k .ke .ey .keys .lo .n .o .n- .-o .lotm .key.x .x.key .key.lot.m.x .P")
	for _, class := range []string{"", " ", "\t\n\r ", "kk", "k,l", "k.l", ".k", "k;", "k\u00a0l", "k\u0085l", "k\u2028l", "\u3000k", "k\u00a0", "K", "k-", "-k"} {
		checkOnePart(t, elementIn(-1, "g", "class", class), "g *", ".k .l g.k *.k.k")
	}
	for _, class := range []string{" k", "k ", "\tk", "k\t", "\nk", "k\n", "\rk", "k\r", "k l", "l k", "l\tk", "l\nk", "l\rk", "l  k  l", "k\tk", "kk k", "k kk", "\u00e9 k"} {
		checkOnePart(t, elementIn(-1, "g", "class", class), ".k g.k *.k", ".x .k.x")
	}
	checkOnePart(t, elementIn(-1, "g", "Class", "k", "CLASS", "k", "id", "k", "classes", "k"), "g #k", ".k")
}

func TestMatchesAllOfAPart(t *testing.T) {
	full := "g#a.k.l.m.n"
	checkOnePart(t, elementIn(-1, "g", "id", "a", "class", "n m l k"), full+" g#a.n.n.n.n #a.k g.k g#a *#a.m", "h#a.k.l.m.n g#b.k.l.m.n g#a.x.l.m.n g#a.k.x.m.n g#a.k.l.x.n g#a.k.l.m.x")
	checkOnePart(t, elementIn(-1, "g", "id", "a"), "g#a", full)
	checkOnePart(t, elementIn(-1, "g", "class", "k l m n"), "g.k.l.m.n", full)
	checkOnePart(t, elementIn(-1, "h", "id", "a", "class", "k l m n"), "#a.k.l.m.n", full)
}

// nestedNodes have elements that fit the same part nearer and farther, and some that do not stand around one another.
func nestedNodes() []impl.Node {
	return []impl.Node{
		elementIn(-1, "svg", "id", "r"),
		elementIn(0, "g", "class", "o"),
		elementIn(1, "g", "class", "i o"),
		elementIn(2, "a", "id", "x"),
		elementIn(3, "g", "class", "i"),
		elementIn(4, "rect", "class", "k"),
		textIn(5, "t"),
		elementIn(4, "line", "class", "late"),
		elementIn(0, "circle", "class", "c"),
		elementIn(8, "use", "id", "u"),
	}
}

func TestMatchesElementsAround(t *testing.T) {
	l := nestedNodes()
	checkMatches(t, l, 5, true, "rect", "* rect", "svg rect", "g rect", "a rect", "#x rect", "#r *", ".o .k",
		"g g rect", "g g g rect", "svg g g g rect", "svg g a g rect", ".o .o rect", ".o .i rect", ".i .i rect", ".o .i .i rect", ".i a .i rect", ".o a .i rect",
		".o g a rect", ".o .o g rect", "g .o a g rect", "#r .o .i #x rect", "svg .o a rect", ".i a rect", "a .i rect", "svg * rect", "* * * * rect", "* * * * *",
		"g.i.o rect", "g.o a#x g.i rect.k")
	checkMatches(t, l, 5, false, "g", "a", "rect rect", "rect g", "rect *", ".k rect", "svg svg rect", "a a rect", "g g g g rect", ".o .o .o rect", ".i .i .i rect",
		"a .o rect", "#x .o rect", ".i .o .i a rect", "a svg rect", "g svg rect", "#x #r rect", "circle rect", "line rect", "* circle rect", "use rect", "late rect", "svg g g a g",
		"g.i.o g.i.o rect", "#r #r rect", "h rect", "g h rect", "h g rect", "svg h g g rect", "#y rect", ".i.k rect")
	checkMatches(t, l, 0, true, "svg", "*", "#r", "svg#r")
	checkMatches(t, l, 0, false, "* *", "* svg", "svg svg", "g svg", "* * * * *")
	checkMatches(t, l, 4, true, "* * * * *", "svg g g a g", "#r .o .o #x .i")
	checkMatches(t, l, 3, true, "* * * *", ".o .o a")
	checkMatches(t, l, 3, false, "* * * * *", ".o .o .o a", ".i .i a")
	checkMatches(t, l, 9, true, "svg circle use", "#r .c #u", "* * *")
	checkMatches(t, l, 9, false, "g use", "rect use", "#x #u", "* * * *", ".o #u", "line use")
}

func TestMatchesInTheDeepest(t *testing.T) {
	l := tower(impl.MaxDeep)
	checkMatches(t, l, 9, true, "e9", "e0 e9", "e8 e9", "e0 e1 e2 e3 e9", "e5 e6 e7 e8 e9", "e0 e2 e4 e6 e9", "e0 * e4 * e9")
	checkMatches(t, l, 9, false, "e1 e0 e9", "e0 e0 e9", "e8 e8 e9", "e9 e9", "e3 e2 e1 e0 e9", "e0 e4 e2 e6 e9", "e7 * * e9", "e8 * e9")
	checkMatches(t, l, 8, false, "e9 e8", "e9")
}

// fitsAsTold holds an element against a part by its text alone.
func fitsAsTold(n impl.Node, p impl.Part) bool {
	id, hasId := impl.AttrOf(n, "id")
	class, _ := impl.AttrOf(n, "class")
	class = " " + strings.NewReplacer("\t", " ", "\n", " ", "\r", " ").Replace(class) + " "
	fits := (p.Type == "" || p.Type == "*" || p.Type == n.Name) && (p.Id == "" || hasId && p.Id == id)
	for _, c := range p.Classes {
		fits = fits && strings.Contains(class, " "+c+" ")
	}
	return fits
}

// matchesAsTold tries all elements around for each part.
func matchesAsTold(l []impl.Node, k int, sel []impl.Part) bool {
	ahead := sel[:len(sel)-1]
	if !fitsAsTold(l[k], sel[len(sel)-1]) {
		return false
	}
	if len(ahead) == 0 {
		return true
	}
	for up := l[k].Up; up >= 0; up = l[up].Up {
		if matchesAsTold(l, up, ahead) {
			return true
		}
	}
	return false
}

func oneOf[T any](d *dice, l ...T) T { return l[d.below(len(l))] }

// someStyled answers good nodes whose attributes and names are those that someMatching and the cascade's tests look for.
func someStyled(d *dice) []impl.Node {
	l := []impl.Node{elementIn(-1, oneOf(d, "svg", "g"), styledAttrs(d)...)}
	for count := 1 + d.below(14); len(l) < count; {
		up, deep := someUp(d, l)
		last := l[len(l)-1]
		if d.below(6) == 0 && (last.Name != "" || last.Up != up) {
			l = append(l, textIn(up, "t"))
		} else if deep < impl.MaxDeep {
			l = append(l, elementIn(up, oneOf(d, "svg", "g", "a"), styledAttrs(d)...))
		}
	}
	return l
}

func styledAttrs(d *dice) []string {
	var pairs []string
	add := func(name string, values ...string) {
		if d.below(3) == 0 {
			pairs = append(pairs, name, oneOf(d, values...))
		}
	}
	add("id", "a", "b", "a b", "")
	add("class", "k", "l", "k l", " l\tk\n", "kl", "m l", "")
	add("fill", "red", " 1 ", "inherit", "currentColor", "", " \n")
	add("color", "teal", "inherit", "CURRENTcolor", "navy")
	add("opacity", "inherit", ".5", "currentcolor", "\t")
	add("style", "fill:s1", "FILL:s2 !important", "color:s3;opacity:s4", "fill:s5!important;fill:s6", "fill:inherit;color:inherit !important", "opacity:s7 ! important", strings.Repeat(" ", 1500)+"fill:s8")
	return pairs
}

func someMatching(d *dice) []impl.Part {
	var l []impl.Part
	for range 1 + d.below(5) {
		p := onePart(oneOf(d, "svg", "g", "a", "*"), oneOf(d, "", "", "", "", "a", "b"))
		if d.below(2) == 0 {
			p.Classes = oneOf(d, []string{"k"}, []string{"l"}, []string{"k", "l"}, []string{"m"})
			p.Type = oneOf(d, "", "", p.Type)
		}
		l = append(l, p)
	}
	return l
}

func TestMatchesOfAnyNodes(t *testing.T) {
	d := dice(66)
	counts := map[bool]int{}
	for range 3000 {
		l := someStyled(&d)
		for k := range l {
			sel := someMatching(&d)
			want := l[k].Name != "" && matchesAsTold(l, k, sel)
			counts[want]++
			if got := impl.Matches(l, k, sel); got != want {
				t.Fatalf("%v %d: Matches %q: %v", l, k, selectorAsTold(sel), got)
			}
		}
	}
	if counts[true] < 1000 || counts[false] < 1000 {
		t.Error(counts)
	}
}

func TestWeightOf(t *testing.T) {
	for s, want := range map[string]int{
		"*": 0, "g": 1, "#a": 100, ".k": 10, "g#a": 101, "g.k": 11, "#a.k": 110, "g#a.k": 111, "*#a": 100, "*.k": 10, "*#a.k": 110,
		".k.l": 20, ".k.k": 20, ".k.l.m.n": 40, "g.k.l.m": 31, "g#a.k.l.m.n": 141, "* *": 0, "g *": 1, "* g": 1, "g g": 2, "#a #a": 200, ".k .k": 20, "g #a .k": 111,
		"* * * * *": 0, "a b c d e": 5, "#a #b #c #d #e": 500, ".a .b .c .d .e": 50, "a #b .c d#e.f *.g": 232, "- _": 2,
		strings.TrimSpace(strings.Repeat("g#a.k.l.m.n ", 5)): 705,
	} {
		if got, ok := impl.WeightOf(partsFor(t, s)); got != want || !ok {
			t.Errorf("WeightOf %q: %d, %v", s, got, ok)
		}
	}
	d := dice(606)
	for range 2000 {
		l := someSelector(&d)
		text := selectorAsTold(l)
		want := 100*strings.Count(text, "#") + 10*strings.Count(text, ".")
		for _, piece := range strings.Fields(text) {
			if !strings.ContainsAny(piece[:1], "#.*") {
				want++
			}
		}
		if got, ok := impl.WeightOf(l); got != want || !ok {
			t.Fatalf("WeightOf %q: %d, %v", text, got, ok)
		}
	}
}

func TestMatchesOfBadSelectors(t *testing.T) {
	l := []impl.Node{elementIn(-1, "g", "id", "b", "class", "k l m"), elementIn(0, "g", "id", "b", "class", "k l m")}
	for _, sel := range badSelectors() {
		if impl.Matches(l, 1, sel) || impl.Matches(l, 0, sel) {
			t.Errorf("Matches %q", sel)
		}
		if got, ok := impl.WeightOf(sel); got != 0 || ok {
			t.Errorf("WeightOf %q: %d, %v", sel, got, ok)
		}
	}
	// These would fit, if only parts that are right were looked at, or no more of them than there may be.
	deep := tower(impl.MaxDeep)
	for name, sel := range map[string][]impl.Part{
		"six parts":    slices.Repeat(byType("*"), 6),
		"no parts":     {},
		"an empty one": {onePart("*", ""), {}, onePart("*", "")},
		"five classes": {onePart("", "", "k", "k", "l", "m", "m")},
		"no word":      {onePart("", "", "")},
	} {
		if impl.Matches(deep, 9, sel) || impl.Matches(l, 1, sel) {
			t.Errorf("%s: matches", name)
		}
	}
	odd := []impl.Node{elementIn(-1, "a.b", "id", "1", "class", "1 é -")}
	for _, p := range []impl.Part{onePart("a.b", ""), onePart("", "1"), onePart("", "", "1"), onePart("", "", "é"), onePart("", "", "-", "1")} {
		if impl.Matches(odd, 0, selector(p)) {
			t.Errorf("Matches %q", p)
		}
	}
}

// otherNumbers are no elements of nodes of which there are count, wherever their texts stand.
func otherNumbers(count int) []int {
	return []int{-1, -2, count, count + 1, count + 1000, math.MinInt, math.MinInt + 1, math.MaxInt, math.MaxInt - 1}
}

func TestMatchesOfOtherNumbers(t *testing.T) {
	for name, l := range goodNodesOfAllKinds() {
		for k, n := range l {
			if impl.Matches(l, k, byType("*")) != (n.Name != "") {
				t.Errorf("%s: %d", name, k)
			}
		}
		for _, k := range otherNumbers(len(l)) {
			if impl.Matches(l, k, byType("*")) {
				t.Errorf("%s: %d", name, k)
			}
		}
	}
}

func TestMatchesOfBadNodes(t *testing.T) {
	for name, l := range badNodes() {
		for _, k := range append(otherNumbers(len(l)), 0, 1, 2, len(l)-1) {
			if impl.Matches(l, k, byType("*")) || impl.Matches(l, k, byType("a")) {
				t.Errorf("%s: %d", name, k)
			}
		}
	}
}

// roomyNodes are the same nodes with something behind the end of each list: another node, and behind each one's attributes the given ones.
func roomyNodes(l []impl.Node, behind ...string) []impl.Node {
	out := append(cloneNodes(l), elementIn(0, "style"), textIn(len(l), "*{fill:behind!important}"))[:len(l)]
	for k := range out {
		out[k].Attrs = append(out[k].Attrs, elementIn(0, "e", behind...).Attrs...)[:len(out[k].Attrs)]
	}
	return out
}

// behindNodes are the nodes with what stands behind the end of each list too.
func behindNodes(l []impl.Node) []impl.Node {
	out := slices.Clone(l[:len(l)+2])
	for k := range l {
		out[k].Attrs = out[k].Attrs[:cap(out[k].Attrs)]
	}
	return out
}

func TestMatchesWritesIntoNoArgument(t *testing.T) {
	l := roomyNodes(nestedNodes(), "id", "z", "class", "z")
	before := cloneNodes(behindNodes(l))
	for text, want := range map[string]bool{"svg .i a .i rect": true, "#r .o .o .i .k": true, "* * * * *": true, "#z": false, ".z": false, "rect.z": false, "#z rect": false, "g": false} {
		sel := roomyParts(partsFor(t, text))
		beforeParts := cloneParts(behindParts(sel))
		if got := impl.Matches(l, 5, sel); got != want {
			t.Errorf("%q: %v", text, got)
		}
		weight, _ := impl.WeightOf(sel)
		if again, _ := impl.WeightOf(partsFor(t, text)); weight != again {
			t.Errorf("%q: WeightOf reads behind a list's end", text)
		}
		if !sameParts(behindParts(sel), beforeParts) || !sameNodes(behindNodes(l), before) {
			t.Fatalf("%q: an argument is written into", text)
		}
	}
	if impl.Matches(l, len(l), byType("style")) {
		t.Error("a node behind the end is read")
	}
}
