package tests

import (
	"slices"
	"strconv"
	"strings"
	"testing"

	"loop.example/g00137/impl"
)

// word30 is the longest word, with each kind of byte in it.
const word30 = "-aZ_09-aZ_09-aZ_09-aZ_09-aZ_09"

// value60 is the longest value, with the bytes that mean something elsewhere.
const value60 = "#a , b: *c .d*e(f) ~\x00\x7f\x80\xff\tg\nh\rié \"x\" 'y' = < > & \\ 01234567z"

func onePart(kind, id string, classes ...string) impl.Part {
	return impl.Part{Type: kind, Id: id, Classes: classes}
}

func selector(parts ...impl.Part) []impl.Part { return parts }

// byType answers a selector of one part, which is a Type alone.
func byType(kind string) []impl.Part { return selector(onePart(kind, "")) }

func decl(name, value string) impl.Decl { return impl.Decl{Name: name, Value: value} }

func importantDecl(name, value string) impl.Decl {
	return impl.Decl{Name: name, Value: value, Important: true}
}

// ruleFor answers a rule whose one selector is a Type alone.
func ruleFor(kind string, decls ...impl.Decl) impl.Rule {
	return impl.Rule{Selectors: [][]impl.Part{byType(kind)}, Decls: decls}
}

func samePart(p, q impl.Part) bool {
	return p.Type == q.Type && p.Id == q.Id && slices.Equal(p.Classes, q.Classes)
}

func sameParts(a, b []impl.Part) bool { return slices.EqualFunc(a, b, samePart) }

func sameRules(a, b []impl.Rule) bool {
	return slices.EqualFunc(a, b, func(p, q impl.Rule) bool {
		return slices.EqualFunc(p.Selectors, q.Selectors, sameParts) && slices.Equal(p.Decls, q.Decls)
	})
}

func cloneParts(l []impl.Part) []impl.Part {
	out := slices.Clone(l)
	for k := range out {
		out[k].Classes = slices.Clone(out[k].Classes)
	}
	return out
}

func cloneRules(l []impl.Rule) []impl.Rule {
	out := slices.Clone(l)
	for k := range out {
		out[k].Decls = slices.Clone(out[k].Decls)
		out[k].Selectors = slices.Clone(out[k].Selectors)
		for i := range out[k].Selectors {
			out[k].Selectors[i] = cloneParts(out[k].Selectors[i])
		}
	}
	return out
}

// selectorsOfAllKinds are selectors, each by the text that is written for it.
func selectorsOfAllKinds() map[string][]impl.Part {
	full := onePart(word30, word30, word30, word30, word30, word30)
	fullText := word30 + "#" + word30 + strings.Repeat("."+word30, 4)
	return map[string][]impl.Part{
		"g":         byType("g"),
		"*":         byType("*"),
		"#a":        selector(onePart("", "a")),
		".k":        selector(onePart("", "", "k")),
		".k.k.l.m":  selector(onePart("", "", "k", "k", "l", "m")),
		"g#a":       selector(onePart("g", "a")),
		"*#a.k":     selector(onePart("*", "a", "k")),
		"g.k":       selector(onePart("g", "", "k")),
		"#a.k.l":    selector(onePart("", "a", "k", "l")),
		"G#A.K":     selector(onePart("G", "A", "K")),
		"_#-._.-":   selector(onePart("_", "-", "_", "-")),
		"--#__.z9":  selector(onePart("--", "__", "z9")),
		"g .k":      selector(onePart("g", ""), onePart("", "", "k")),
		"* * * * *": selector(onePart("*", ""), onePart("*", ""), onePart("*", ""), onePart("*", ""), onePart("*", "")),
		"a #b .c d#e.f *.g": selector(onePart("a", ""), onePart("", "b"), onePart("", "", "c"),
			onePart("d", "e", "f"), onePart("*", "", "g")),
		word30:                                byType(word30),
		"#" + word30:                          selector(onePart("", word30)),
		"." + word30:                          selector(onePart("", "", word30)),
		fullText:                              selector(full),
		strings.Repeat(fullText+" ", 4) + "g": selector(full, full, full, full, onePart("g", "")),
	}
}

func TestConstantsOfSheets(t *testing.T) {
	if impl.MaxSheet != 1500 || impl.MaxRules != 30 || impl.MaxDecls != 12 {
		t.Error("a constant is not as told")
	}
}

func TestSelectorsComeBackFromTheirText(t *testing.T) {
	for text, l := range selectorsOfAllKinds() {
		if got, ok := impl.SelectorText(l); got != text || !ok {
			t.Errorf("SelectorText: %q, %v for %q", got, ok, text)
		}
		if got, ok := impl.ReadSelector(text); !sameParts(got, l) || !ok {
			t.Errorf("ReadSelector(%q): %v, %v", text, got, ok)
		}
	}
	d := dice(5)
	for range 2000 {
		l := someSelector(&d)
		text, ok := impl.SelectorText(l)
		if text != selectorAsTold(l) || !ok {
			t.Fatalf("SelectorText(%v): %q, %v", l, text, ok)
		}
		if got, ok := impl.ReadSelector(text); !sameParts(got, l) || !ok {
			t.Fatalf("ReadSelector(%q): %v, %v", text, got, ok)
		}
	}
}

// someWord answers a word, now and then one of each edge of its size.
func someWord(d *dice) string {
	const first = "abcXYZ_-"
	const others = first + "0189"
	size := []int{1, 2, 3, 29, 30}[d.below(5)]
	out := []byte{first[d.below(len(first))]}
	for len(out) < size {
		out = append(out, others[d.below(len(others))])
	}
	return string(out)
}

func somePart(d *dice) impl.Part {
	var p impl.Part
	for p.Type == "" && p.Id == "" && len(p.Classes) == 0 {
		p.Type = []string{"", "*", someWord(d)}[d.below(3)]
		p.Id = []string{"", someWord(d)}[d.below(2)]
		p.Classes = nil
		for range d.below(5) {
			p.Classes = append(p.Classes, someWord(d))
		}
	}
	return p
}

func someSelector(d *dice) []impl.Part {
	var l []impl.Part
	for range 1 + d.below(5) {
		l = append(l, somePart(d))
	}
	return l
}

func selectorAsTold(l []impl.Part) string {
	var parts []string
	for _, p := range l {
		text := p.Type
		if p.Id != "" {
			text += "#" + p.Id
		}
		parts = append(parts, strings.Join(append([]string{text}, p.Classes...), "."))
	}
	return strings.Join(parts, " ")
}

func sheetAsTold(l []impl.Rule) string {
	text := ""
	for _, r := range l {
		var selectors []string
		for _, parts := range r.Selectors {
			selectors = append(selectors, selectorAsTold(parts))
		}
		text += strings.Join(selectors, ",") + "{"
		for _, d := range r.Decls {
			mark := map[bool]string{true: " !important"}[d.Important]
			text += d.Name + ":" + d.Value + mark + ";"
		}
		text += "}"
	}
	return text
}

// manyDecls answers count declarations, each other one important.
func manyDecls(count int) []impl.Decl {
	var l []impl.Decl
	for k := range count {
		l = append(l, impl.Decl{Name: "n" + strconv.Itoa(k), Value: strings.Repeat("v", k+1), Important: k%2 == 1})
	}
	return l
}

func manyRules(count int) []impl.Rule {
	var l []impl.Rule
	for k := range count {
		l = append(l, ruleFor("t"+strconv.Itoa(k), manyDecls(k%3)...))
	}
	return l
}

// rulesOfAllKinds are rules that can be written, with a word on each.
func rulesOfAllKinds() map[string][]impl.Rule {
	var all [][]impl.Part
	for _, l := range selectorsOfAllKinds() {
		if len(selectorAsTold(l)) < 100 {
			all = append(all, l)
		}
	}
	slices.SortFunc(all, func(a, b []impl.Part) int { return strings.Compare(selectorAsTold(a), selectorAsTold(b)) })
	out := map[string][]impl.Rule{
		"no rule":           nil,
		"most rules":        manyRules(impl.MaxRules),
		"no declaration":    {ruleFor("g")},
		"some without":      {ruleFor("g"), ruleFor("h", decl("a", "b")), ruleFor("i")},
		"several selectors": {{Selectors: all, Decls: manyDecls(2)}},
		"the same selector": {{Selectors: [][]impl.Part{byType("g"), byType("g")}}},
		"the same rule":     {ruleFor("g", decl("a", "b")), ruleFor("g", decl("a", "b"))},
		"most declarations": {ruleFor("g", manyDecls(impl.MaxDecls)...)},
		"the same name":     {ruleFor("g", decl("a", "b"), importantDecl("a", "c"), decl("a", "b"))},
		"important ones":    {ruleFor("g", importantDecl("a", "b"), decl("a", "b"), importantDecl("c", "important"))},
		"longest value":     {ruleFor("g", decl("a", value60), importantDecl("b", value60))},
		"longest name":      {ruleFor("g", decl(strings.ToLower(word30), "x"), decl("_9", "x"), decl("-", "x"))},
	}
	for _, value := range []string{"a", "*", ":", ",", "#", "#fff", "url(#a)", "1 2,3", "a: b", "::", "a\tb\nc\rd e", "é", "\x80", "\xff", "\x00",
		"\v", "\f", "\u00a0", "\u2028", "\ufffd", "a.b", "important", "i mportant", "inherit", "*x", "@", "'\""} {
		out["the value "+strconv.Quote(value)] = []impl.Rule{ruleFor("g", decl("a", value), importantDecl("b", value))}
	}
	return out
}

func checkRulesComeBack(t *testing.T, name string, l []impl.Rule) {
	t.Helper()
	text, ok := impl.SheetText(l)
	if text != sheetAsTold(l) || !ok {
		t.Fatalf("%s: SheetText: %q, %v", name, text, ok)
	}
	if got, ok := impl.ReadSheet(text); !sameRules(got, l) || !ok {
		t.Fatalf("%s: ReadSheet(%q): %v, %v", name, text, got, ok)
	}
}

func TestSheetsComeBackFromTheirText(t *testing.T) {
	if len(word30) != 30 || len(value60) != 60 {
		t.Fatal(len(word30), len(value60))
	}
	for name, l := range rulesOfAllKinds() {
		checkRulesComeBack(t, name, l)
	}
	d := dice(55)
	for range 2000 {
		l := someRules(&d)
		for len(sheetAsTold(l)) > impl.MaxSheet {
			l = l[1:]
		}
		checkRulesComeBack(t, "some rules", l)
	}
}

func someValue(d *dice) string {
	const bytes = "ab1 ,:*#\t.\x80\xff\x00()"
	size := []int{1, 2, 5, 59, 60}[d.below(5)]
	out := make([]byte, size)
	for k := range out {
		out[k] = bytes[d.below(len(bytes))]
	}
	if strings.Trim(string(out), " \t") != string(out) {
		out[0], out[size-1] = 'x', 'y'
	}
	return string(out)
}

func someRules(d *dice) []impl.Rule {
	var l []impl.Rule
	for range d.below(8) {
		var r impl.Rule
		for range 1 + d.below(3) {
			r.Selectors = append(r.Selectors, selector(somePart(d)))
		}
		for range d.below(4) {
			r.Decls = append(r.Decls, impl.Decl{Name: strings.ToLower(someWord(d)), Value: someValue(d), Important: d.below(2) == 1})
		}
		l = append(l, r)
	}
	return l
}

func TestSheetTextForm(t *testing.T) {
	l := []impl.Rule{
		{Selectors: [][]impl.Part{selector(onePart("g", ""), onePart("", "", "k")), selector(onePart("", "a"))},
			Decls: []impl.Decl{decl("fill", "red"), importantDecl("stroke-width", "1 , 2")}},
		ruleFor("*"),
	}
	want := "g .k,#a{fill:red;stroke-width:1 , 2 !important;}*{}"
	if got, ok := impl.SheetText(l); got != want || !ok {
		t.Errorf("%q, %v", got, ok)
	}
	if got, ok := impl.SheetText(nil); got != "" || !ok {
		t.Errorf("no rules: %q, %v", got, ok)
	}
}

// rulesOfSize answers rules whose text has so many bytes.
func rulesOfSize(size int) []impl.Rule {
	l := []impl.Rule{}
	for size-len(sheetAsTold(l)) > 140 {
		l = append(l, ruleFor("g", decl("name", value60)))
	}
	l = append(l, ruleFor("g", decl("n", "v"), decl("n", "v")))
	for k := 0; len(sheetAsTold(l)) < size; k++ {
		l[len(l)-1].Decls[k/59].Value += "v"
	}
	return l
}

func TestSheetTextLimit(t *testing.T) {
	for _, size := range []int{impl.MaxSheet - 1, impl.MaxSheet} {
		l := rulesOfSize(size)
		if len(sheetAsTold(l)) != size {
			t.Fatal("not so many bytes")
		}
		checkRulesComeBack(t, strconv.Itoa(size), l)
	}
	many := [][]impl.Part{}
	for range 1000 {
		many = append(many, byType("g"))
	}
	for name, l := range map[string][]impl.Rule{
		"one byte more":        rulesOfSize(impl.MaxSheet + 1),
		"many bytes more":      {ruleFor("g", slices.Repeat([]impl.Decl{decl("n", value60)}, 12)...), ruleFor("g", slices.Repeat([]impl.Decl{decl("n", value60)}, 12)...)},
		"many selectors":       {{Selectors: many}},
		"one by its important": append(rulesOfSize(impl.MaxSheet-17), ruleFor("g", importantDecl("a", "b"))),
	} {
		if got, ok := impl.SheetText(l); got != "" || ok {
			t.Errorf("%s: %q, %v", name, got, ok)
		}
	}
	checkRulesComeBack(t, "just as many by its important", append(rulesOfSize(impl.MaxSheet-18), ruleFor("g", importantDecl("a", "b"))))
}

// badWords are none, wherever a word is looked for.
func badWords() []string {
	l := []string{"1", "9a", "0" + word30[1:], word30 + "x", strings.Repeat("a", 31), strings.Repeat("a", 256), "é", "aé", "a\x80", "\xffa", "\u212a", "aſ", "\x00", "a\x00",
		" ", "a ", " a", "a b", "\ta", "a\n", "**", "a*", "*a", "a#b", "a.b", "#a", ".a", "#", ".", "a:b", "a,b", "a{", "}a", "a/b", "a;", "a+b", "a=b", "a@", "a[b]", "a!", "`a", "a^", "a|b"}
	for c := range 256 {
		if b := byte(c); !strings.ContainsRune("-_0123456789", rune(c)) && (b < 'A' || b > 'Z') && (b < 'a' || b > 'z') {
			l = append(l, string([]byte{'a', b}), string([]byte{b}))
		}
	}
	return l
}

func badParts() []impl.Part {
	l := []impl.Part{{}, {Classes: []string{}}, onePart("a", "", "k", "k", "k", "k", "k"), onePart("", "", "k", "k", "k", "k", "k"),
		onePart("a", "", ""), onePart("", "", "", "k"), onePart("", "a", "k", ""), onePart("a", "b", "*"), onePart("a", "*")}
	for _, w := range badWords() {
		if w != "*" {
			l = append(l, onePart(w, ""), onePart(w, "a", "k"))
		}
		l = append(l, onePart("", w), onePart("a", w, "k"), onePart("", "", w), onePart("a", "b", "k", "l", "m", w), onePart("", "", w, "k"))
	}
	return l
}

func badSelectors() [][]impl.Part {
	good := onePart("g", "")
	l := [][]impl.Part{nil, {}, slices.Repeat([]impl.Part{good}, 6), slices.Repeat([]impl.Part{good}, 50)}
	for _, p := range badParts() {
		l = append(l, selector(p), selector(good, p), selector(p, good), selector(good, good, good, good, p))
	}
	return l
}

func TestTextOfBadSelectors(t *testing.T) {
	for _, l := range badSelectors() {
		if got, ok := impl.SelectorText(l); got != "" || ok {
			t.Errorf("SelectorText(%q): %q, %v", l, got, ok)
		}
		for _, selectors := range [][][]impl.Part{{l}, {byType("g"), l}, {l, byType("g")}} {
			rules := []impl.Rule{{Selectors: selectors, Decls: []impl.Decl{decl("a", "b")}}}
			if got, ok := impl.SheetText(rules); got != "" || ok {
				t.Errorf("SheetText(%v): %q, %v", rules, got, ok)
			}
		}
	}
}

func badDecls() []impl.Decl {
	var l []impl.Decl
	for _, name := range append(badWords(), "", "*", "A", "fiLl", "Fill", "filL", "Z", "-A", strings.ToUpper(word30)) {
		l = append(l, decl(name, "v"), importantDecl(name, "v"))
	}
	for _, value := range []string{"", value60 + "x", strings.Repeat("x", 61), strings.Repeat("x", 300)} {
		l = append(l, decl("n", value), importantDecl("n", value))
	}
	for _, c := range []string{" ", "\t", "\n", "\r", ";", "{", "}", "/", "!"} {
		l = append(l, decl("n", c), decl("n", c+"v"), decl("n", "v"+c), importantDecl("n", c+"v"), importantDecl("n", "v"+c), decl("n", c+"v"+c))
	}
	for _, c := range []string{";", "{", "}", "/", "!", "/*", "*/", "/* c */", " !important", "!important"} {
		l = append(l, decl("n", "v"+c+"v"), importantDecl("n", "v"+c+"v"))
	}
	return l
}

func TestTextOfBadDecls(t *testing.T) {
	good := decl("a", "b")
	for _, d := range badDecls() {
		for _, decls := range [][]impl.Decl{{d}, {good, d}, {d, good}} {
			for _, l := range [][]impl.Rule{{ruleFor("g", decls...)}, {ruleFor("h", good), ruleFor("g", decls...)}, {ruleFor("g", decls...), ruleFor("h", good)}} {
				if got, ok := impl.SheetText(l); got != "" || ok {
					t.Errorf("SheetText(%v): %q, %v", l, got, ok)
				}
			}
		}
	}
}

func TestTextOfBadRules(t *testing.T) {
	good := ruleFor("g", decl("a", "b"))
	for name, l := range map[string][]impl.Rule{
		"an empty rule":             {{}},
		"no selectors":              {{Decls: good.Decls}},
		"an empty selectors' list":  {{Selectors: [][]impl.Part{}, Decls: good.Decls}},
		"no selectors, behind":      {good, {Decls: good.Decls}},
		"no selectors, ahead":       {{Decls: good.Decls}, good},
		"one declaration too many":  {ruleFor("g", slices.Repeat(good.Decls, impl.MaxDecls+1)...)},
		"much too many of them":     {good, ruleFor("g", slices.Repeat(good.Decls, 100)...)},
		"one rule too many":         slices.Repeat([]impl.Rule{good}, impl.MaxRules+1),
		"one rule without anything": slices.Repeat([]impl.Rule{ruleFor("g")}, impl.MaxRules+1),
	} {
		if got, ok := impl.SheetText(l); got != "" || ok {
			t.Errorf("%s: %q, %v", name, got, ok)
		}
	}
	checkRulesComeBack(t, "just as many", slices.Repeat([]impl.Rule{good}, impl.MaxRules))
	checkRulesComeBack(t, "just as many declarations", []impl.Rule{ruleFor("g", slices.Repeat(good.Decls, impl.MaxDecls)...)})
}

// roomyRules are the same rules with something behind the end of each list.
func roomyRules(l []impl.Rule) []impl.Rule {
	out := append(cloneRules(l), ruleFor("behind", decl("be", "hind")))[:len(l)]
	for k := range out {
		r := &out[k]
		r.Decls = append(r.Decls, decl("be", "hind"))[:len(r.Decls)]
		r.Selectors = append(r.Selectors, byType("behind"))[:len(r.Selectors)]
		for i, parts := range r.Selectors {
			r.Selectors[i] = roomyParts(parts)
		}
	}
	return out
}

func roomyParts(l []impl.Part) []impl.Part {
	out := append(cloneParts(l), onePart("behind", ""))[:len(l)]
	for k := range out {
		out[k].Classes = append(out[k].Classes, "behind")[:len(out[k].Classes)]
	}
	return out
}

// behindRules are the rules with what stands behind the end of each list too.
func behindRules(l []impl.Rule) []impl.Rule {
	out := slices.Clone(l[:len(l)+1])
	for k := range l {
		out[k].Decls = l[k].Decls[:len(l[k].Decls)+1]
		out[k].Selectors = slices.Clone(l[k].Selectors[:len(l[k].Selectors)+1])
		for i, parts := range l[k].Selectors {
			out[k].Selectors[i] = behindParts(parts)
		}
	}
	return out
}

func behindParts(l []impl.Part) []impl.Part {
	out := slices.Clone(l[:len(l)+1])
	for k := range l {
		out[k].Classes = l[k].Classes[:len(l[k].Classes)+1]
	}
	return out
}

func TestTextsOfSheetsWriteIntoNoArgument(t *testing.T) {
	for name, l := range rulesOfAllKinds() {
		roomy := roomyRules(l)
		before := cloneRules(behindRules(roomy))
		text, ok := impl.SheetText(roomy)
		if !sameRules(behindRules(roomy), before) {
			t.Errorf("%s: SheetText writes into its argument", name)
		}
		if text != sheetAsTold(l) || !ok {
			t.Errorf("%s: SheetText reads behind a list's end: %q, %v", name, text, ok)
		}
	}
	for want, l := range selectorsOfAllKinds() {
		roomy := roomyParts(l)
		before := cloneParts(behindParts(roomy))
		text, ok := impl.SelectorText(roomy)
		if !sameParts(behindParts(roomy), before) {
			t.Errorf("%s: SelectorText writes into its argument", want)
		}
		if text != want || !ok {
			t.Errorf("%s: SelectorText reads behind a list's end: %q, %v", want, text, ok)
		}
		for _, p := range l {
			if sharesText(text, p.Type) || sharesText(text, p.Id) {
				t.Errorf("%s: SelectorText answers its argument's memory", want)
			}
		}
	}
}
