package tests

import (
	"encoding/xml"
	"io"
	"math"
	"slices"
	"strconv"
	"strings"
	"testing"
	"unsafe"

	"loop.example/g00137/impl"
)

// hardText has each byte that is written as an entity, the runes below 32 that may be there, and runes of one to four bytes at their edges.
const hardText = "&<>\"'\t\n\r ;&amp;&#9;]]> --> \x7f\u0080\u07ff\u0800\ud7ff\ue000\ufffd\uffff\U00010000\U0010ffff"

// name30 is the longest name; one byte more is none.
const name30 = "_a-b:c.d9_a-b:c.d9_a-b:c.d9_aZ"

// elementIn answers an element; pairs are its attributes' names and values, in turn.
func elementIn(up int, name string, pairs ...string) impl.Node {
	n := impl.Node{Name: name, Up: up}
	for k := 0; k < len(pairs); k += 2 {
		n.Attrs = append(n.Attrs, impl.Attr{Name: pairs[k], Value: pairs[k+1]})
	}
	return n
}

func textIn(up int, s string) impl.Node { return impl.Node{Up: up, Text: s} }

func cloneNodes(l []impl.Node) []impl.Node {
	out := slices.Clone(l)
	for k := range out {
		out[k].Attrs = slices.Clone(out[k].Attrs)
	}
	return out
}

func sameNodes(a, b []impl.Node) bool {
	return slices.EqualFunc(a, b, func(m, n impl.Node) bool {
		return m.Name == n.Name && m.Up == n.Up && m.Text == n.Text && slices.Equal(m.Attrs, n.Attrs)
	})
}

// manyAttrs answers count attributes, as elementIn takes them.
func manyAttrs(count int) []string {
	var pairs []string
	for k := range count {
		pairs = append(pairs, "n"+strconv.Itoa(k), strings.Repeat("v", k))
	}
	return pairs
}

// flat answers a root with elements and texts in turn, count nodes in all.
func flat(count int) []impl.Node {
	l := []impl.Node{elementIn(-1, "r")}
	for k := 1; k < count; k++ {
		if k%2 == 1 {
			l = append(l, elementIn(0, "e"))
		} else {
			l = append(l, textIn(0, "t"))
		}
	}
	return l
}

// tower answers count elements around each other.
func tower(count int) []impl.Node {
	var l []impl.Node
	for k := range count {
		l = append(l, elementIn(k-1, "e"+strconv.Itoa(k)))
	}
	return l
}

// goodNodesOfAllKinds are good nodes with a word on each.
func goodNodesOfAllKinds() map[string][]impl.Node {
	deepest := impl.MaxDeep - 1
	return map[string][]impl.Node{
		"one element":           {elementIn(-1, "a")},
		"an element in one":     {elementIn(-1, "a"), elementIn(0, "a")},
		"a text in one":         {elementIn(-1, "a"), textIn(0, "t")},
		"MaxNodes":              flat(impl.MaxNodes),
		"MaxDeep":               tower(impl.MaxDeep),
		"a text at the deepest": append(tower(impl.MaxDeep), textIn(deepest, "t"), textIn(deepest-1, "u"), elementIn(deepest-1, "e"), textIn(0, "v")),
		"all ended at once":     append(tower(impl.MaxDeep), elementIn(0, "e"), elementIn(impl.MaxDeep, "f"), textIn(0, "x")),
		"MaxAttrs":              {elementIn(-1, "a", manyAttrs(impl.MaxAttrs)...), elementIn(0, "b", manyAttrs(impl.MaxAttrs)...)},
		"empty values":          {elementIn(-1, "a", "x", "", "y", "")},
		"names":                 {elementIn(-1, "_", "A", "1", "z", "2", "_", "3", "a-", "4", "a.", "5", "a:", "6", "a0", "7", "Z9", "8"), elementIn(0, name30, name30, "x")},
		"hard texts":            {elementIn(-1, "a", "x", hardText, "y", hardText), textIn(0, hardText), elementIn(0, "b"), textIn(0, hardText)},
		"blanks alone":          {elementIn(-1, "a", "x", " \t\r\n "), textIn(0, " \n\r\n\t")},
		"texts all around":      {elementIn(-1, "a"), textIn(0, "1"), elementIn(0, "b"), textIn(2, "2"), elementIn(2, "c"), textIn(4, "3"), textIn(2, "4"), textIn(0, "5")},
		"names alike":           {elementIn(-1, "a", "a", "a"), elementIn(0, "a", "a", "a"), elementIn(1, "a", "a", "a"), elementIn(0, "a", "a", "a")},
		"names by their size":   {elementIn(-1, "a", "x", "1", "X", "2", "x.", "3", "xx", "4")},
	}
}

// someRunes answers a text of count runes, which are of all sizes.
func someRunes(d *dice, count int) string {
	var out []rune
	for range count {
		switch d.below(6) {
		case 0:
			out = append(out, []rune{'&', '<', '>', '"', '\'', '\t', '\n', '\r', ' ', ';', '#', ']', '-'}[d.below(13)])
		case 1:
			out = append(out, rune(0x80+d.below(0x780)))
		case 2:
			out = append(out, rune(0xe000+d.below(0x1ffd)))
		case 3:
			out = append(out, rune(0x10000+d.below(0x100000)))
		default:
			out = append(out, rune(32+d.below(95)))
		}
	}
	return string(out)
}

// someNodes answers good nodes, other ones at each call.
func someNodes(d *dice) []impl.Node {
	l := []impl.Node{elementIn(-1, "r", someAttrs(d)...)}
	for count := d.below(impl.MaxNodes); len(l) <= count; {
		up, deep := someUp(d, l)
		last := l[len(l)-1]
		if d.below(3) == 0 && (last.Name != "" || last.Up != up) {
			l = append(l, textIn(up, "t"+someRunes(d, d.below(8))))
		} else if deep < impl.MaxDeep {
			l = append(l, elementIn(up, "e"+strconv.Itoa(d.below(5)), someAttrs(d)...))
		}
	}
	return l
}

// someUp answers an element in which the next node may stand, and how many elements it has around it, with itself.
func someUp(d *dice, l []impl.Node) (int, int) {
	var open []int
	for k := len(l) - 1; k >= 0; k = l[k].Up {
		if l[k].Name != "" {
			open = append(open, k)
		}
	}
	k := d.below(len(open))
	if d.below(2) == 0 {
		k = 0
	}
	return open[k], len(open) - k
}

func someAttrs(d *dice) []string {
	var pairs []string
	for k := range d.below(4) {
		pairs = append(pairs, "n"+strconv.Itoa(k)+":_.-"[:d.below(5)], someRunes(d, d.below(6)))
	}
	return pairs
}

// marksAsTold writes node k and what is below it, as the document tells it.
func marksAsTold(l []impl.Node, k int) string {
	escape := strings.NewReplacer("&", "&amp;", "<", "&lt;", ">", "&gt;", `"`, "&quot;", "\t", "&#9;", "\n", "&#10;", "\r", "&#13;")
	if l[k].Name == "" {
		return escape.Replace(l[k].Text)
	}
	head := "<" + l[k].Name
	for _, a := range l[k].Attrs {
		head += " " + a.Name + `="` + escape.Replace(a.Value) + `"`
	}
	inside := ""
	for i := range l {
		if l[i].Up == k {
			inside += marksAsTold(l, i)
		}
	}
	if inside == "" {
		return head + "/>"
	}
	return head + ">" + inside + "</" + l[k].Name + ">"
}

// checkComesBack is promise 4, for nodes whose text is not too long.
func checkComesBack(t *testing.T, name string, l []impl.Node) {
	t.Helper()
	if !impl.GoodNodes(l) {
		t.Fatalf("%s: not good", name)
	}
	s, ok := impl.MarksText(l)
	if want := marksAsTold(l, 0); len(want) > impl.MaxMarks {
		if ok || s != "" {
			t.Errorf("%s: %d bytes are written", name, len(want))
		}
		return
	} else if !ok || s != want {
		t.Errorf("%s: %v %q, not %q", name, ok, s, want)
	}
	if d := impl.ReadMarks(s); d.Code != impl.MarkOk || d.At != 0 || !sameNodes(d.Nodes, l) {
		t.Errorf("%s: %q comes back as %v", name, s, d)
	}
}

func TestConstantsOfMarks(t *testing.T) {
	got := []int{impl.MarkOk, impl.MarkLong, impl.MarkByte, impl.MarkForm, impl.MarkTwice, impl.MarkEnd, impl.MarkDeep, impl.MarkMany, impl.MarkEntity, impl.MarkDtd}
	if !slices.Equal(got, []int{0, 1, 2, 3, 4, 5, 6, 7, 8, 9}) || impl.MaxMarks != 3000 || impl.MaxNodes != 60 || impl.MaxDeep != 10 || impl.MaxAttrs != 12 {
		t.Error(got, impl.MaxMarks, impl.MaxNodes, impl.MaxDeep, impl.MaxAttrs)
	}
}

func TestNodesComeBackFromTheirText(t *testing.T) {
	for name, l := range goodNodesOfAllKinds() {
		checkComesBack(t, name, l)
	}
	d := dice(314159265358979)
	for range 3000 {
		checkComesBack(t, "some nodes", someNodes(&d))
	}
	for c := rune(0); c < 0x3000; c++ {
		if c >= 32 || c == 9 || c == 10 || c == 13 {
			checkComesBack(t, "rune "+strconv.Itoa(int(c)), []impl.Node{elementIn(-1, "a", "x", string(c)), textIn(0, string(c))})
		}
	}
}

func TestMarksTextForm(t *testing.T) {
	cases := map[string][]impl.Node{
		`<a/>`:                                          {elementIn(-1, "a")},
		`<a b="" c="d"/>`:                               {elementIn(-1, "a", "b", "", "c", "d")},
		`<a b="c"><d/></a>`:                             {elementIn(-1, "a", "b", "c"), elementIn(0, "d")},
		`<a>1<b>2<c>3</c>4</b>5</a>`:                    {elementIn(-1, "a"), textIn(0, "1"), elementIn(0, "b"), textIn(2, "2"), elementIn(2, "c"), textIn(4, "3"), textIn(2, "4"), textIn(0, "5")},
		`<a>&amp;&lt;&gt;&quot;' ;</a>`:                 {elementIn(-1, "a"), textIn(0, `&<>"' ;`)},
		`<a>&#9;&#10;&#13;&#13;&#10;</a>`:               {elementIn(-1, "a"), textIn(0, "\t\n\r\r\n")},
		`<a b="&amp;&lt;&gt;&quot;' ;&#9;&#10;&#13;"/>`: {elementIn(-1, "a", "b", "&<>\"' ;\t\n\r")},
		`<a>&amp;amp;</a>`:                              {elementIn(-1, "a"), textIn(0, "&amp;")},
		"<a>\x7f\u00e9\u20ac</a>":                       {elementIn(-1, "a"), textIn(0, "\x7f\u00e9\u20ac")},
		`<a><b/><b/>t</a>`:                              {elementIn(-1, "a"), elementIn(0, "b"), elementIn(0, "b"), textIn(0, "t")},
	}
	for want, l := range cases {
		if got, ok := impl.MarksText(l); !ok || got != want {
			t.Errorf("%v %q, not %q", ok, got, want)
		}
	}
}

func TestMarksTextLimit(t *testing.T) {
	frame := len("<a></a>")
	checkComesBack(t, "MaxMarks bytes", []impl.Node{elementIn(-1, "a"), textIn(0, strings.Repeat("x", impl.MaxMarks-frame))})
	checkComesBack(t, "one more", []impl.Node{elementIn(-1, "a"), textIn(0, strings.Repeat("x", impl.MaxMarks-frame+1))})
	// 2990 bytes of entities and three others are MaxMarks bytes with the frame.
	entities := strings.Repeat("&", 598)
	checkComesBack(t, "MaxMarks bytes with entities", []impl.Node{elementIn(-1, "a"), textIn(0, entities+"xxx")})
	checkComesBack(t, "one more with entities", []impl.Node{elementIn(-1, "a"), textIn(0, entities+"xxxx")})
	value := len(`<a b=""/>`)
	checkComesBack(t, "a value of MaxMarks bytes", []impl.Node{elementIn(-1, "a", "b", strings.Repeat("x", impl.MaxMarks-value))})
	checkComesBack(t, "a value with one more", []impl.Node{elementIn(-1, "a", "b", strings.Repeat("x", impl.MaxMarks-value+1))})
	checkComesBack(t, "runes of MaxMarks bytes", []impl.Node{elementIn(-1, "a", "b", strings.Repeat("\u20ac", (impl.MaxMarks-value)/3))})
	checkComesBack(t, "runes with one more", []impl.Node{elementIn(-1, "a", "bc", strings.Repeat("\u20ac", (impl.MaxMarks-value)/3)), elementIn(0, "d")})
	checkComesBack(t, "very long", []impl.Node{elementIn(-1, "a"), textIn(0, strings.Repeat("<", 1000000))})
}

// nodesByXml reads a text by the library's reader.
func nodesByXml(t *testing.T, s string) []impl.Node {
	var l []impl.Node
	open := []int{-1}
	join := func(n xml.Name) string { return strings.TrimPrefix(n.Space+":"+n.Local, ":") }
	for reader := xml.NewDecoder(strings.NewReader(s)); ; {
		token, err := reader.RawToken()
		if err == io.EOF {
			return l
		}
		if err != nil {
			t.Fatalf("%q: %v", s, err)
		}
		switch x := token.(type) {
		case xml.StartElement:
			n := elementIn(open[len(open)-1], join(x.Name))
			for _, a := range x.Attr {
				n.Attrs = append(n.Attrs, impl.Attr{Name: join(a.Name), Value: a.Value})
			}
			open = append(open, len(l))
			l = append(l, n)
		case xml.EndElement:
			open = open[:len(open)-1]
		case xml.CharData:
			l = append(l, textIn(open[len(open)-1], string(x)))
		}
	}
}

func TestMarksTextIsReadByOthers(t *testing.T) {
	d := dice(271828182845904)
	for range 500 {
		l := someNodes(&d)
		if s, ok := impl.MarksText(l); ok {
			if got := nodesByXml(t, s); !sameNodes(got, l) {
				t.Errorf("%q is read as %v", s, got)
			}
		}
	}
}

// badNodes are nodes that are not good, with a word on each.
func badNodes() map[string][]impl.Node {
	root := elementIn(-1, "a")
	deepest := impl.MaxDeep - 1
	all := map[string][]impl.Node{
		"none":                          nil,
		"one more than MaxNodes":        flat(impl.MaxNodes + 1),
		"many":                          flat(1000),
		"a text alone":                  {textIn(-1, "t")},
		"a text first":                  {textIn(-1, "t"), elementIn(-1, "a")},
		"an empty node first":           {{Up: -1}},
		"a first one of Up 0":           {elementIn(0, "a")},
		"a first one of Up -2":          {elementIn(-2, "a")},
		"a first one of Up 1":           {elementIn(1, "a"), elementIn(-1, "b")},
		"one more than MaxDeep":         tower(impl.MaxDeep + 1),
		"one more than MaxDeep, behind": append(tower(impl.MaxDeep), elementIn(deepest-1, "e"), elementIn(impl.MaxDeep, "f")),
		"one more than MaxAttrs":        {elementIn(-1, "a", manyAttrs(impl.MaxAttrs+1)...)},
		"one more than MaxAttrs inside": {root, elementIn(0, "a", manyAttrs(impl.MaxAttrs+1)...)},
		"two attributes alike":          {elementIn(-1, "a", "x", "1", "x", "1")},
		"the first and the last alike":  {elementIn(-1, "a", append(manyAttrs(impl.MaxAttrs-1), "n0", "")...)},
		"two alike inside":              {root, elementIn(0, "a", "w", "1", "x", "2", "y", "3", "x", "4")},
		"two texts side by side":        {root, textIn(0, "t"), textIn(0, "u")},
		"two texts deeper":              {root, elementIn(0, "b"), textIn(1, "t"), textIn(1, "u")},
		"two texts at the end":          {root, elementIn(0, "b"), textIn(1, "t"), textIn(0, "u"), textIn(0, "v")},
		"an empty text":                 {root, textIn(0, "")},
		"a text with an attribute":      {root, {Up: 0, Text: "t", Attrs: []impl.Attr{{Name: "x", Value: "1"}}}},
		"no name but attributes":        {root, {Up: 0, Attrs: []impl.Attr{{Name: "x", Value: "1"}}}},
		"an element with a text":        {root, {Up: 0, Name: "b", Text: "t"}},
		"a first one with a text":       {{Up: -1, Name: "b", Text: "t"}},
	}
	for _, up := range []int{-1, -2, 3, 4, 5, 2, 100, math.MinInt, math.MaxInt} {
		all["an element's Up "+strconv.Itoa(up)] = []impl.Node{root, elementIn(0, "b"), textIn(1, "t"), elementIn(up, "c"), elementIn(0, "d")}
		all["a text's Up "+strconv.Itoa(up)] = []impl.Node{root, elementIn(0, "b"), textIn(1, "t"), textIn(up, "c"), elementIn(0, "d")}
	}
	for up := 1; up <= 3; up++ {
		closed := []impl.Node{root, elementIn(0, "b"), elementIn(1, "c"), textIn(2, "t"), elementIn(0, "d")}
		all["in a closed one "+strconv.Itoa(up)] = append(slices.Clone(closed), elementIn(up, "e"))
		all["a text in a closed one "+strconv.Itoa(up)] = append(slices.Clone(closed), textIn(up, "e"))
	}
	return all
}

// badNames are no mark's names.
func badNames() []string {
	l := []string{"", name30 + "x", strings.Repeat("a", 31), strings.Repeat("a", 1000), "a ", " a", "a b", "\u00e9", "a\u00e9", "a\xff", "a\x00"}
	for c := range 256 {
		first := strings.IndexByte("ABCDEFGHIJKLMNOPQRSTUVWXYZabcdefghijklmnopqrstuvwxyz_", byte(c)) >= 0
		later := first || strings.IndexByte("0123456789-:.", byte(c)) >= 0
		if !first {
			l = append(l, string([]byte{byte(c)}), string([]byte{byte(c), 'a'}))
		}
		if !later {
			l = append(l, string([]byte{'a', byte(c)}), string([]byte{'a', byte(c), 'b'}))
		}
	}
	return l
}

// badTexts are no texts of runes that may be there.
func badTexts() []string {
	l := []string{
		"\x80", "a\xbf", "\xc0\x80", "\xc1\xbf", "\xe0\x80\x80", "\xe0\x9f\xbf", "\xf0\x80\x80\x80", "\xf0\x8f\xbf\xbf",
		"\xed\xa0\x80", "\xed\xbf\xbf", "\xed\xa0\x80\xed\xb0\x80", "\xf4\x90\x80\x80", "\xf5\x80\x80\x80", "\xfe", "\xff",
		"\xc3", "a\xc3", "\xe2\x82", "\xe2", "\xf0\x9f\x98", "\xf0\x9f", "\xf0", "\xc3a", "\xe2\x82a", "\xf0\x9f\x98a", "\xe2\xe2\x82\xac",
	}
	for c := range 32 {
		if c != 9 && c != 10 && c != 13 {
			l = append(l, string([]byte{byte(c)}), string([]byte{'a', byte(c)}), string([]byte{byte(c), 'a'}))
		}
	}
	return l
}

func checkBadNodes(t *testing.T, name string, l []impl.Node) {
	t.Helper()
	if impl.GoodNodes(l) {
		t.Errorf("%s: good", name)
	}
	if s, ok := impl.MarksText(l); ok || s != "" {
		t.Errorf("%s: MarksText %v %q", name, ok, s)
	}
	for k := -1; k <= len(l); k++ {
		if s, ok := impl.TextUnder(l, k); ok || s != "" {
			t.Errorf("%s: TextUnder %d %v %q", name, k, ok, s)
		}
	}
}

func TestBadNodes(t *testing.T) {
	for name, l := range badNodes() {
		checkBadNodes(t, name, l)
	}
	root := elementIn(-1, "a")
	for _, s := range badNames() {
		name := "the name " + strconv.Quote(s)
		checkBadNodes(t, name, []impl.Node{elementIn(-1, s)})
		checkBadNodes(t, name+" of an attribute", []impl.Node{elementIn(-1, "a", s, "1")})
		checkBadNodes(t, name+" of the last attribute", []impl.Node{root, elementIn(0, "a", "b", "1", s, "1")})
		checkBadNodes(t, name+" inside", []impl.Node{root, elementIn(0, s), elementIn(0, "b")})
	}
	for _, s := range badTexts() {
		name := "the text " + strconv.Quote(s)
		checkBadNodes(t, name, []impl.Node{root, textIn(0, s)})
		checkBadNodes(t, name+" behind another", []impl.Node{root, textIn(0, "t"), elementIn(0, "b"), textIn(0, s), elementIn(0, "b")})
		checkBadNodes(t, name+" as a value", []impl.Node{elementIn(-1, "a", "x", s)})
		checkBadNodes(t, name+" as the last value", []impl.Node{root, elementIn(0, "a", "x", "", "y", s)})
	}
}

// goodPlacesAsTold tells by a stack whether the Ups are as they must be.
func goodPlacesAsTold(l []impl.Node) bool {
	open := []int{}
	for k, n := range l {
		if k == 0 {
			if n.Up != -1 || n.Name == "" {
				return false
			}
			open = append(open, 0)
			continue
		}
		place := slices.Index(open, n.Up)
		if place < 0 || n.Name == "" && l[k-1].Name == "" && l[k-1].Up == n.Up {
			return false
		}
		open = open[:place+1]
		if n.Name != "" {
			open = append(open, k)
		}
		if len(open) > impl.MaxDeep {
			return false
		}
	}
	return len(l) > 0
}

func TestGoodNodesOfAnyPlaces(t *testing.T) {
	d := dice(161803398874989)
	counts := map[bool]int{}
	for range 20000 {
		l := someNodes(&d)
		for range d.below(3) {
			l[d.below(len(l))].Up += d.below(5) - 2
		}
		want := goodPlacesAsTold(l)
		counts[want]++
		if got := impl.GoodNodes(l); got != want {
			t.Errorf("%v: %v", l, got)
		}
	}
	if counts[true] < 1000 || counts[false] < 1000 {
		t.Error(counts)
	}
}

func TestAttrOf(t *testing.T) {
	wild := impl.Node{Name: "", Up: 7, Text: "\xff", Attrs: []impl.Attr{{Name: "x", Value: "first"}, {Name: "", Value: "empty"}, {Name: "x", Value: "second"}, {Name: "\xff", Value: "\xfe"}, {Name: "y", Value: ""}}}
	for name, want := range map[string]string{"x": "first", "": "empty", "\xff": "\xfe", "y": ""} {
		if got, ok := impl.AttrOf(wild, name); !ok || got != want {
			t.Errorf("%q: %v %q", name, ok, got)
		}
	}
	for _, name := range []string{"X", "xx", "x ", "z", "first"} {
		if got, ok := impl.AttrOf(wild, name); ok || got != "" {
			t.Errorf("%q: %v %q", name, ok, got)
		}
	}
	if got, ok := impl.AttrOf(impl.Node{}, ""); ok || got != "" {
		t.Error(ok, got)
	}
	full := elementIn(-1, "a", manyAttrs(100)...)
	for k := range 100 {
		if got, ok := impl.AttrOf(full, "n"+strconv.Itoa(k)); !ok || len(got) != k {
			t.Error(k, ok, got)
		}
	}
	if got, ok := impl.AttrOf(impl.Node{Attrs: full.Attrs[:3:5]}, "n3"); ok || got != "" {
		t.Error("what lies behind the length is read", got)
	}
}

func TestTextUnder(t *testing.T) {
	l := []impl.Node{elementIn(-1, "a"), textIn(0, "1"), elementIn(0, "b", "x", "no"), textIn(2, "2"), elementIn(2, "c"), textIn(4, "3"), textIn(2, "4"), textIn(0, "5"), elementIn(0, "d"), elementIn(8, "e"), textIn(9, "<6>")}
	want := []string{"12345<6>", "1", "234", "2", "3", "3", "4", "5", "<6>", "<6>", "<6>"}
	for k := range l {
		if got, ok := impl.TextUnder(l, k); !ok || got != want[k] {
			t.Errorf("%d: %v %q", k, ok, got)
		}
	}
	for _, k := range []int{-1, -2, len(l), len(l) + 1, math.MinInt, math.MaxInt} {
		if got, ok := impl.TextUnder(l, k); ok || got != "" {
			t.Errorf("%d: %v %q", k, ok, got)
		}
	}
	if got, ok := impl.TextUnder([]impl.Node{elementIn(-1, "a"), elementIn(0, "b")}, 1); !ok || got != "" {
		t.Error("no text", ok, got)
	}
	long := strings.Repeat("x", 10*impl.MaxMarks)
	if got, ok := impl.TextUnder([]impl.Node{elementIn(-1, "a"), textIn(0, long)}, 0); !ok || got != long {
		t.Error("a long text", ok, len(got))
	}
}

// underAsTold gathers the texts that have k on their way up.
func underAsTold(l []impl.Node, k int) string {
	out := ""
	for i := range l {
		for up := i; up >= 0; up = l[up].Up {
			if up == k {
				out += l[i].Text
			}
		}
	}
	return out
}

func TestTextUnderOfAnyNodes(t *testing.T) {
	d := dice(141421356237309)
	for range 300 {
		l := someNodes(&d)
		for k := range l {
			if got, ok := impl.TextUnder(l, k); !ok || got != underAsTold(l, k) {
				t.Errorf("%v %d: %v %q", l, k, ok, got)
			}
		}
	}
}

// sharesText tells whether two texts lie in the same memory.
func sharesText(a, b string) bool {
	from, to := uintptr(unsafe.Pointer(unsafe.StringData(a))), uintptr(unsafe.Pointer(unsafe.StringData(b)))
	return a != "" && b != "" && from < to+uintptr(len(b)) && to < from+uintptr(len(a))
}

func TestMarksWriteIntoNoArgument(t *testing.T) {
	calls := map[string]func([]impl.Node) string{
		"GoodNodes": func(l []impl.Node) string { impl.GoodNodes(l); return "" },
		"MarksText": func(l []impl.Node) string { s, _ := impl.MarksText(l); return s },
		"TextUnder": func(l []impl.Node) string { s, _ := impl.TextUnder(l, len(l)-1); return s },
		"AttrOf": func(l []impl.Node) string {
			s, _ := impl.AttrOf(l[0], "x")
			return s
		},
	}
	for word, l := range goodNodesOfAllKinds() {
		whole := append(cloneNodes(l), elementIn(-7, "behind", "x", "y"))
		for k := range whole {
			whole[k].Attrs = append(whole[k].Attrs, impl.Attr{Name: "behind", Value: "it"})
			whole[k].Attrs = whole[k].Attrs[:len(whole[k].Attrs)-1]
		}
		before := cloneNodes(whole)
		for name, call := range calls {
			s := call(whole[:len(l)])
			if !sameNodes(whole, before) {
				t.Errorf("%s: %s writes into its argument", word, name)
			}
			for k := range l {
				behind := whole[k].Attrs[:len(whole[k].Attrs)+1]
				if behind[len(behind)-1].Name != "behind" || sharesText(s, l[k].Text) {
					t.Errorf("%s: %s shares memory", word, name)
				}
				for _, a := range l[k].Attrs {
					if sharesText(s, a.Value) {
						t.Errorf("%s: %s shares memory with a value", word, name)
					}
				}
			}
		}
	}
}
