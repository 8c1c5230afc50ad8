package tests

import (
	"regexp"
	"slices"
	"strconv"
	"strings"
	"testing"

	"loop.example/g00137/impl"
)

// The chapter's forms, told a second time.
const (
	blankForm = `[\t\n\r ]`
	wordForm  = `[A-Za-z_-][A-Za-z0-9_-]{0,29}`
)

var (
	commentAsTold  = regexp.MustCompile(`(?s)/\*.*?(?:\*/|$)`)
	ruleAsTold     = regexp.MustCompile(`(?s)([^{]*)\{([^}]*)(?:\}|$)`)
	blanksAsTold   = regexp.MustCompile(blankForm + `+`)
	partAsTold     = regexp.MustCompile(`^(` + wordForm + `|\*)?(?:#(` + wordForm + `))?((?:\.` + wordForm + `){0,4})$`)
	declAsTold     = regexp.MustCompile(`(?s)^` + blankForm + `*(` + wordForm + `)` + blankForm + `*:` + blankForm + `*(.*?)` + blankForm + `*(!important)?` + blankForm + `*$`)
	aroundSelector = regexp.MustCompile(`^` + blankForm + `+|` + blankForm + `+$`)
)

func partsAsTold(s string) []impl.Part {
	var l []impl.Part
	for _, piece := range blanksAsTold.Split(aroundSelector.ReplaceAllString(s, ""), -1) {
		m := partAsTold.FindStringSubmatch(piece)
		if m == nil || piece == "" {
			return nil
		}
		l = append(l, impl.Part{Type: m[1], Id: m[2], Classes: strings.Split(m[3], ".")[1:]})
	}
	if len(l) > 5 {
		return nil
	}
	return l
}

func declsAsTold(s string) []impl.Decl {
	var l []impl.Decl
	for _, piece := range strings.Split(s, ";") {
		m := declAsTold.FindStringSubmatch(piece)
		if m != nil && m[2] != "" && len(m[2]) <= 60 && len(l) < 12 {
			l = append(l, impl.Decl{Name: strings.ToLower(m[1]), Value: m[2], Important: m[3] != ""})
		}
	}
	return l
}

func rulesAsTold(s string) []impl.Rule {
	var l []impl.Rule
	for _, m := range ruleAsTold.FindAllStringSubmatch(commentAsTold.ReplaceAllString(s, " "), -1) {
		r := impl.Rule{Decls: declsAsTold(m[2])}
		for _, piece := range strings.Split(m[1], ",") {
			r.Selectors = append(r.Selectors, partsAsTold(piece))
		}
		wrong := slices.ContainsFunc(r.Selectors, func(l []impl.Part) bool { return l == nil })
		if !wrong && len(l) < 30 {
			l = append(l, r)
		}
	}
	return l
}

func checkSheet(t *testing.T, s string, want ...impl.Rule) {
	t.Helper()
	if got, ok := impl.ReadSheet(s); !sameRules(got, want) || !ok {
		t.Errorf("ReadSheet(%q): %v, %v", s, got, ok)
	}
}

func checkStyle(t *testing.T, s string, want ...impl.Decl) {
	t.Helper()
	if got, ok := impl.ReadStyle(s); !slices.Equal(got, want) || !ok {
		t.Errorf("ReadStyle(%q): %v, %v", s, got, ok)
	}
}

// checkDecls looks at declarations as a style, as a rule's, and as those of a rule that does not end.
func checkDecls(t *testing.T, s string, want ...impl.Decl) {
	t.Helper()
	checkStyle(t, s, want...)
	checkSheet(t, "g{"+s+"}", ruleFor("g", want...))
	checkSheet(t, "h{} g{"+s, ruleFor("h"), ruleFor("g", want...))
}

func checkNoSelector(t *testing.T, s string) {
	t.Helper()
	if got, ok := impl.ReadSelector(s); len(got) != 0 || ok {
		t.Errorf("ReadSelector(%q): %v, %v", s, got, ok)
	}
}

func TestReadSelectorWrittenOtherwise(t *testing.T) {
	want := selector(onePart("g", "a", "k"), onePart("*", ""), onePart("", "", "l", "m"))
	for _, s := range []string{"g#a.k * .l.m", " g#a.k * .l.m", "g#a.k * .l.m ", "\t\n\r g#a.k\t*\r\n.l.m\n", "g#a.k\r*\n.l.m", "\rg#a.k      *\t\t.l.m\t",
		strings.Repeat(" \n", 5000) + "g#a.k" + strings.Repeat("\t", 5000) + "*\n.l.m" + strings.Repeat("\r", 5000)} {
		if got, ok := impl.ReadSelector(s); !sameParts(got, want) || !ok {
			t.Errorf("ReadSelector(%.50q): %v, %v", s, got, ok)
		}
	}
}

func TestReadSelectorRefuses(t *testing.T) {
	wrong := []string{"", " ", "\t\n\r ", ",", "a,b", "a b c d e f", "* * * * * *", ".a .b .c .d .e .f", " a  b  c  d  e  f ",
		"#", ".", "a#", "a.", "#.k", "a#.k", "#a.", "a..k", ".k.", "a.k.", "..k", "##a", "#a#b", "a#b#c", ".k#a", "a.k#a", ".k.l#a", "#a*", ".k*", "a*", "*a", "**", "*.*", "#*", ".*",
		".a.b.c.d.e", "g#a.a.b.c.d.e", "a.b.c.d.e.f.g", "g .a.b.c.d.e h", ". k", "# a", "a # b", "a . b", "a #b. c", "a >b", "a > b", "a+b", "a:b", "a[b]", "a/**/", "/**/a", "a/**/b", "a{", "{a", "a}", "a;b", "a!",
		"a\vb", "a\fb", "\va", "a\u00a0b", "a\u0085b", "a\u2028b", "\ufeffa", "a\x00", "\x00", "a b\x80", "\xa0", "\x85"}
	for _, w := range badWords() {
		if strings.Trim(w, "\t\n\r ") == w && w != "*" && w != "#a" && w != ".a" && w != "a#b" && w != "a.b" && w != "a b" {
			wrong = append(wrong, w)
		}
		wrong = append(wrong, "#"+strings.TrimRight(w, "\t\n\r ")+"#", ".k*"+w)
	}
	for _, w := range []string{"1", "9a", word30 + "x", strings.Repeat("a", 31), "é", "a\x80", "\u212a", "-é", "aſ"} {
		wrong = append(wrong, w, "#"+w, "."+w, "g#"+w, "g."+w, "g#a.k."+w, "*#"+w+".k", w+"#a", w+".k")
	}
	for _, s := range wrong {
		checkNoSelector(t, s)
		checkNoSelector(t, "g "+s+"#")
		if !strings.ContainsAny(s, ",{/") {
			checkSheet(t, s+"{a:b}")
		}
	}
	for _, s := range []string{"1", "#", ".k#a", "a*", ".a.b.c.d.e", strings.Repeat("a", 31), "é"} {
		for _, form := range []string{"g *", "* g", "g h * i j", "\n* \tg"} {
			checkNoSelector(t, ofForm(form, s))
		}
	}
}

func TestReadSelectorBytesOfWords(t *testing.T) {
	const first = "-_ABCDEFGHIJKLMNOPQRSTUVWXYZabcdefghijklmnopqrstuvwxyz"
	for c := range 256 {
		one := string([]byte{byte(c)})
		begins, goesOn := strings.Contains(first, one), strings.Contains(first+"0123456789", one)
		for _, ahead := range []string{"#", ".", "g#", "g.k."} {
			if _, ok := impl.ReadSelector(ahead + one); ok != begins {
				t.Errorf("%q: %v", ahead+one, ok)
			}
			if _, ok := impl.ReadSelector(ahead + "x" + one); ok != (goesOn || strings.Contains("\t\n\r ", one)) {
				t.Errorf("%q: %v", ahead+"x"+one, ok)
			}
			checkAsTold(t, ahead+"x"+one+"y")
		}
		checkAsTold(t, one+":v")
		checkAsTold(t, "x"+one+"y:v")
		checkAsTold(t, "a:x"+one)
		checkAsTold(t, "a:"+one+"x!important")
	}
}

func withoutCommentsAsTold(s string) string { return commentAsTold.ReplaceAllString(s, " ") }

func TestReadSheetWrittenOtherwise(t *testing.T) {
	want := []impl.Rule{
		{Selectors: [][]impl.Part{selector(onePart("g", ""), onePart("", "", "k")), selector(onePart("", "a"))},
			Decls: []impl.Decl{decl("fill", "red  x"), importantDecl("stroke-width", "b")}},
		ruleFor("*"),
	}
	for _, s := range []string{
		"g .k,#a{fill:red  x;stroke-width:b !important;}*{}",
		"g .k,#a{fill:red  x;stroke-width:b !important}*{}",
		"g .k,#a{fill:red  x;stroke-width:b!important}*{",
		"g .k,#a{fill:red  x;stroke-width:b !important}*{;",
		"g .k,#a{FILL:red  x;Stroke-Width:b\t\n!important}*{;;;}",
		"\tg\n\r.k ,\n#a\t{ fill\t:\nred  x\r; ;;stroke-width : b  !important ; }\n*\n{\n}\n",
		"/**/g/**/.k/**/,/**/#a/**/{/**/fill/**/:/**/red  x/**/;/**/stroke-width/**/:/**/b/**/!important/**/;/**/}/**/*/**/{/**/}/**/",
		"/* { */g .k,#a{fill:red/* } *//* ; */x;/* a:b; */stroke-width:b !important}/* h{} */*{}/* h{}",
		"g .k,#a{fill:red  x;stroke-width:b !important}*{/*",
		"g .k,#a{fill:red  x;stroke-width:b !important}*{}/*/",
		"g .k,#a{fill:red  x;stroke-width:b !important}*{/*/}h{}",
		"/***/g .k,#a{fill:red  x;stroke-width:b !important}*{}/**",
		"/*/*/g .k,#a{fill:red  x;/*/a:b;/*/stroke-width:b !important}*{}",
		"g .k,#a{fill:red  x;stroke-width:b !important}*{} what has no brace",
		"g .k,#a{fill:red  x;stroke-width:b !important}*{} }}} ;;; a:b ,",
		"g .k,#a{fill:red  x;stroke-width:b !important;a;:b;c:;1:d}h,1{a:b}*{}",
	} {
		checkSheet(t, s, want...)
	}
}

// Comments end at the first end behind their whole beginning, and stand for one blank.
func TestCommentsOfSheets(t *testing.T) {
	checkDecls(t, "a:x/*c*/y", decl("a", "x y"))
	checkDecls(t, "a:x/*c*//*d*/y", decl("a", "x  y"))
	checkDecls(t, "a:x /*c*/ y", decl("a", "x   y"))
	checkDecls(t, "a:x/*c*/", decl("a", "x"))
	checkDecls(t, "a:/*c*/x", decl("a", "x"))
	checkDecls(t, "a:/*c*/")
	checkDecls(t, "a/*c*/:x", decl("a", "x"))
	checkDecls(t, "/*c*/a:x", decl("a", "x"))
	checkDecls(t, "a/*c*/b:x")
	checkDecls(t, "a:x/**/!important", importantDecl("a", "x"))
	checkDecls(t, "a:x!important/**/", importantDecl("a", "x"))
	checkDecls(t, "a:x!/**/important", decl("a", "x! important"))
	checkDecls(t, "a:x!import/**/ant", decl("a", "x!import ant"))
	checkDecls(t, "a:x/*;b:y;*/;c:z", decl("a", "x"), decl("c", "z"))
	checkDecls(t, "a:x/ *;b:y* /z", decl("a", "x/ *"), decl("b", "y* /z"))
	checkDecls(t, "a:x*/y", decl("a", "x*/y"))
	checkDecls(t, "a://", decl("a", "//"))
	checkDecls(t, "a:/*/x*/y", decl("a", "y"))
	checkDecls(t, "a:x//**/*y", decl("a", "x/ *y"))
	checkDecls(t, "a:x/*/*y*/z*/", decl("a", "x z*/"))
	checkDecls(t, "a:x;b:/*c", decl("a", "x"))
	checkDecls(t, "a:x;b:y/*c;d:e", decl("a", "x"), decl("b", "y"))
	checkDecls(t, "a:x;b:y/", decl("a", "x"), decl("b", "y/"))
	checkDecls(t, "/*é\x80\x00*/a:x/*\xff", decl("a", "x"))
	checkSheet(t, "g/**/h{}", impl.Rule{Selectors: [][]impl.Part{selector(onePart("g", ""), onePart("h", ""))}})
	checkSheet(t, "g/**/.k{}", impl.Rule{Selectors: [][]impl.Part{selector(onePart("g", ""), onePart("", "", "k"))}})
	checkSheet(t, "g./**/k{}h{}", ruleFor("h"))
	checkSheet(t, "#/**/a{}h{}", ruleFor("h"))
	checkSheet(t, "g/*{a:b}h*/{c:d}", ruleFor("g", decl("c", "d")))
	checkSheet(t, "g{a:b/*}h{*/;c:d}", ruleFor("g", decl("a", "b"), decl("c", "d")))
	checkSheet(t, "g{a:b/*}h{c:d}", ruleFor("g", decl("a", "b")))
	checkSheet(t, "g/*{a:b}h{c:d}")
	checkSheet(t, "*/*c*/*{}", impl.Rule{Selectors: [][]impl.Part{selector(onePart("*", ""), onePart("*", ""))}})
	checkSheet(t, "*/ g{}h{}", ruleFor("h"))
	checkSheet(t, "/*")
	checkSheet(t, "/* c */")
}

func TestReadDeclsPassesOver(t *testing.T) {
	value61 := value60 + "x"
	for _, s := range []string{"", " ", "\n\t\r", "a", " a ", "a b", ":", ":b", " : b", "a:", "a: ", "a:\t\n\r", "a b:c", "a b :c", "1:b", "9a:b", "1a : b", "é:b", "a\x80:b", "aſ:b", "\u212a:b", "-é:b",
		word30 + "x:b", strings.Repeat("a", 31) + ":b", "*:b", "a.b:c", "#a:b", "a!:b", "a,b:c", "a/b:c", "a\vb:c", "\fa:b", "a\f:b", "\u00a0a:b",
		"a:" + value61, "a: " + value61 + " ", "a:" + value61 + " !important", "a:" + strings.Repeat("x", 61), "a:" + strings.Repeat("x", 61) + "!important",
		"a:x" + strings.Repeat(" ", 59) + "y", "a:!important", "a: !important", "a:\t!important\n", "!important", "a!important", "a !important:b", "a:" + strings.Repeat("!important", 8)} {
		checkDecls(t, s)
		checkDecls(t, s+";x:y", decl("x", "y"))
		checkDecls(t, "x:y;"+s, decl("x", "y"))
		checkDecls(t, "x:y;"+s+";z:w !important", decl("x", "y"), importantDecl("z", "w"))
		checkDecls(t, s+";x:y;"+s+";"+s+";z:w;"+s, decl("x", "y"), decl("z", "w"))
	}
}

func TestReadDeclsReads(t *testing.T) {
	for s, want := range map[string]impl.Decl{
		"a:b":                                  decl("a", "b"),
		"A:B":                                  decl("a", "B"),
		"Fill-Opacity:Red":                     decl("fill-opacity", "Red"),
		"AZaz_-09:AZ":                          decl("azaz_-09", "AZ"),
		" \t\r\na \t\r\n: \t\r\nb \t\r\n":      decl("a", "b"),
		"a:b c":                                decl("a", "b c"),
		"a:b\t\n\r c":                          decl("a", "b\t\n\r c"),
		"a::":                                  decl("a", ":"),
		"a:b:c:":                               decl("a", "b:c:"),
		"a :: b":                               decl("a", ": b"),
		"a:#fff,*.x":                           decl("a", "#fff,*.x"),
		"a:\vb\f":                              decl("a", "\vb\f"),
		"a:\u00a0b\u00a0":                      decl("a", "\u00a0b\u00a0"),
		"a:\x80\xff\x00":                       decl("a", "\x80\xff\x00"),
		"a:\x00":                               decl("a", "\x00"),
		"a:é":                                  decl("a", "é"),
		"-:b":                                  decl("-", "b"),
		"_:b":                                  decl("_", "b"),
		"--1:b":                                decl("--1", "b"),
		word30 + ":b":                          decl(strings.ToLower(word30), "b"),
		"a:" + value60:                         decl("a", value60),
		"a:  " + value60 + "   ":               decl("a", value60),
		"a:" + value60 + "!important":          importantDecl("a", value60),
		"a:" + value60 + " \t\n\r!important ":  importantDecl("a", value60),
		"a:b!important":                        importantDecl("a", "b"),
		"a:b !important":                       importantDecl("a", "b"),
		"a:b\t!important":                      importantDecl("a", "b"),
		"a:b !important\n":                     importantDecl("a", "b"),
		"a: b c !important":                    importantDecl("a", "b c"),
		"a:b !important !important":            importantDecl("a", "b !important"),
		"a:b!important!important":              importantDecl("a", "b!important"),
		"a:!important!important":               importantDecl("a", "!important"),
		"a:!important !important":              importantDecl("a", "!important"),
		"a:" + strings.Repeat("!important", 7): importantDecl("a", strings.Repeat("!important", 6)),
		"a:!!important":                        importantDecl("a", "!"),
		"a:b !important c":                     decl("a", "b !important c"),
		"a:!important c":                       decl("a", "!important c"),
		"a:b !importantly":                     decl("a", "b !importantly"),
		"a:b ! important":                      decl("a", "b ! important"),
		"a:! important":                        decl("a", "! important"),
		"a:b !IMPORTANT":                       decl("a", "b !IMPORTANT"),
		"a:b !Important":                       decl("a", "b !Important"),
		"a:!IMPORTANT":                         decl("a", "!IMPORTANT"),
		"a:b important":                        decl("a", "b important"),
		"a:important":                          decl("a", "important"),
		"a:b!":                                 decl("a", "b!"),
		"a:b !importan":                        decl("a", "b !importan"),
		"important:important!important":        importantDecl("important", "important"),
		"a:b/c":                                decl("a", "b/c"),
		"a:'b'":                                decl("a", "'b'"),
		"a:{":                                  decl("a", "{"),
	} {
		checkDecls(t, s, want)
		checkDecls(t, s+";", want)
		checkDecls(t, ";;"+s+";;x:y;", want, decl("x", "y"))
	}
	checkDecls(t, "a:b;a:c;A:d !important;a:b", decl("a", "b"), decl("a", "c"), importantDecl("a", "d"), decl("a", "b"))
	checkDecls(t, "a:'b;c:d'", decl("a", "'b"), decl("c", "d'"))
}

// Braces mean nothing in a style; in a sheet a part ends at the first one that is looked for.
func TestBraces(t *testing.T) {
	checkStyle(t, "a:b}", decl("a", "b}"))
	checkStyle(t, "a:}b{;c:d", decl("a", "}b{"), decl("c", "d"))
	checkStyle(t, "g{a:b}")
	checkStyle(t, "{a:b;c:d}", decl("c", "d}"))
	checkStyle(t, "}")
	checkSheet(t, "}g{a:b}")
	checkSheet(t, "g}{a:b}h{}", ruleFor("h"))
	checkSheet(t, "g{a:b}}h{c:d}i{}", ruleFor("g", decl("a", "b")), ruleFor("i"))
	checkSheet(t, "g{a:b}{c:d}h{}", ruleFor("g", decl("a", "b")), ruleFor("h"))
	checkSheet(t, "{}{}h{}", ruleFor("h"))
	checkSheet(t, "g{{a:b}h{}", ruleFor("g"), ruleFor("h"))
	checkSheet(t, "g{{a:b;c:{d}h{}", ruleFor("g", decl("c", "{d")), ruleFor("h"))
	checkSheet(t, "g{h{a:b;c:d}i{}", ruleFor("g", decl("c", "d")), ruleFor("i"))
	checkSheet(t, "@media g{h{a:b}i{c:d}}j{}k{}", ruleFor("i", decl("c", "d")), ruleFor("k"))
	checkSheet(t, "@import x;g{a:b}h{}", ruleFor("h"))
	checkSheet(t, ";g{}h{}", ruleFor("h"))
	checkSheet(t, "g{", ruleFor("g"))
	checkSheet(t, "{")
	checkSheet(t, "}")
	checkSheet(t, "g")
	checkSheet(t, "g{a:'}'}h{}", ruleFor("g", decl("a", "'")))
}

func TestReadSheetPassesOverRules(t *testing.T) {
	for _, s := range []string{"", " ", "\n", "1", "g,", ",g", "g,,h", "g, ,h", ",", "g,1", "1,g", "g,h,1,i", "g h,.k#a", "g#a#b,h", ".a.b.c.d.e", "g,.a.b.c.d.e,h", "a b c d e f", "g,a b c d e f", "g, h>i",
		"é", "g,a\x80", strings.Repeat("a", 31), "g,#" + strings.Repeat("a", 31), "g." + strings.Repeat("a", 31) + ",h", "g:h", "g;h", "g}", "g!", "9g", "#9", ".9", "**", "a*", "g\vh", "g\u00a0h"} {
		checkSheet(t, s+"{a:b}")
		checkSheet(t, s+"{a:b}h{c:d}", ruleFor("h", decl("c", "d")))
		checkSheet(t, "g{a:b}"+s+"{c:d;}", ruleFor("g", decl("a", "b")))
		checkSheet(t, "g{a:b}"+s+"{c:d}"+s+"{}h{e:f}", ruleFor("g", decl("a", "b")), ruleFor("h", decl("e", "f")))
	}
}

func TestReadSheetManyRules(t *testing.T) {
	good := strings.Repeat("g{a:b}", impl.MaxRules-1)
	all := slices.Repeat([]impl.Rule{ruleFor("g", decl("a", "b"))}, impl.MaxRules-1)
	checkSheet(t, good, all...)
	last := ruleFor("h", decl("c", "d"))
	all = append(all, last)
	checkSheet(t, good+"h{c:d}", all...)
	checkSheet(t, good+"h{c:d}i{e:f}", all...)
	checkSheet(t, good+"h{c:d}i{e:f}j{g:h}", all...)
	// What is passed over is not counted.
	checkSheet(t, strings.Repeat("1{}", 50)+good+"1{a:b}h{c:d}", all...)
	checkSheet(t, good+strings.Repeat("g,1{}", 50)+"h{c:d}i{}", all...)
}

func TestReadDeclsMany(t *testing.T) {
	good := strings.Repeat("a:b;", impl.MaxDecls-1)
	all := slices.Repeat([]impl.Decl{decl("a", "b")}, impl.MaxDecls-1)
	checkDecls(t, good, all...)
	all = append(all, importantDecl("c", "d"))
	checkDecls(t, good+"c:d!important", all...)
	checkDecls(t, good+"c:d!important;e:f", all...)
	checkDecls(t, good+"c:d!important;e:f;g:h!important;", all...)
	checkDecls(t, strings.Repeat("x;", 50)+good+";y:;c:d!important;e:f", all...)
	// Each rule counts anew.
	checkSheet(t, "g{"+good+"c:d!important;e:f}h{"+good+"c:d!important;e:f}", ruleFor("g", all...), ruleFor("h", all...))
}

func TestReadSheetManySelectors(t *testing.T) {
	r, ok := impl.ReadSheet(strings.Repeat("g,", 700) + "h{a:b}")
	if len(r) != 1 || len(r[0].Selectors) != 701 || !ok {
		t.Errorf("%d rules, %v", len(r), ok)
	}
}

func TestReadSheetLong(t *testing.T) {
	for _, s := range []string{" ", "/* c */", "g{a:b}", "g{a:b"} {
		just := s + strings.Repeat(" ", impl.MaxSheet-len(s))
		checkSheet(t, just, rulesAsTold(s)...)
		checkStyle(t, just, declsAsTold(withoutCommentsAsTold(just))...)
		for _, more := range []string{just + " ", " " + just, just + just, "/*" + just + "*/"} {
			if got, ok := impl.ReadSheet(more); len(got) != 0 || ok {
				t.Errorf("ReadSheet of %d bytes: %v, %v", len(more), got, ok)
			}
			if got, ok := impl.ReadStyle(more); len(got) != 0 || ok {
				t.Errorf("ReadStyle of %d bytes: %v, %v", len(more), got, ok)
			}
		}
	}
	just := "a:b;" + strings.Repeat("x", impl.MaxSheet-len("a:b;;c:d")) + ";c:d"
	checkStyle(t, just, decl("a", "b"), decl("c", "d"))
}

// checkAsTold holds the three readers against the forms above.
func checkAsTold(t *testing.T, s string) {
	t.Helper()
	if got, ok := impl.ReadSheet(s); !sameRules(got, rulesAsTold(s)) || !ok {
		t.Fatalf("ReadSheet(%q): %v, %v; not %v", s, got, ok, rulesAsTold(s))
	}
	want := declsAsTold(withoutCommentsAsTold(s))
	if got, ok := impl.ReadStyle(s); !slices.Equal(got, want) || !ok {
		t.Fatalf("ReadStyle(%q): %v, %v; not %v", s, got, ok, want)
	}
	parts := partsAsTold(s)
	if got, ok := impl.ReadSelector(s); !sameParts(got, parts) || ok != (parts != nil) {
		t.Fatalf("ReadSelector(%q): %v, %v; not %v", s, got, ok, parts)
	}
}

func TestReadSheetCutOff(t *testing.T) {
	whole := "/* c */ g .k , *#a.b.c.d.e,h#i{ FILL : red ;; x; stroke:blue !important;a:b /* } */c } 1{a:b}\n g{a:é!important;" +
		strings.Repeat("n:v;", 13) + "} h,,i{} .k#a{} a b c d e f{} " + word30 + "{" + word30 + ":" + value60 + "x;" + word30 + ":" + value60 + "!important}" + strings.Repeat("g{a:b}", 32)
	for cut := range len(whole) + 1 {
		checkAsTold(t, whole[:cut])
		checkAsTold(t, whole[cut:])
	}
}

// somePieces are what sheets are made of, right and wrong.
var somePieces = []string{"g", "h", "*", "#a", ".k", " ", " ", "\n", "\t", "\r", ",", "{", "{", "}", "}", "a:b", ":", ":", ";", ";", "FILL", "red", "!important", "!", "important", "!IMPORTANT", "/*", "*/", "/", "/**/", "1", "é", "\x80", "\xff", "\x00", "\v", "-", "_",
	"#", ".", word30, value60, "g{a:b}", "a:b;", ".a.b.c.d", "a b c d ", "x", "yz"}

func TestReadSheetOfAnyPieces(t *testing.T) {
	d := dice(505)
	for range 20000 {
		var s strings.Builder
		for range 1 + d.below(30) {
			s.WriteString(somePieces[d.below(len(somePieces))])
		}
		if s.Len() <= impl.MaxSheet {
			checkAsTold(t, s.String())
		}
	}
	for range 5000 {
		checkAsTold(t, string(d.bytes(d.below(40), 0, 256)))
		checkAsTold(t, string(d.bytes(d.below(200), 32, 96)))
	}
}

// What is changed at one byte is still read as told.
func TestReadSheetOfOtherBytes(t *testing.T) {
	const others = "{};:,.#*!/ \t\ng1\x80"
	d := dice(5050)
	for name, l := range rulesOfAllKinds() {
		text := sheetAsTold(l)
		for range 200 {
			b := []byte(text)
			for range 1 + d.below(3) {
				if len(b) > 0 {
					b[d.below(len(b))] = others[d.below(len(others))]
				}
			}
			if got, ok := impl.ReadSheet(string(b)); !sameRules(got, rulesAsTold(string(b))) || !ok {
				t.Fatalf("%s: ReadSheet(%q): %v, %v", name, b, got, ok)
			}
		}
	}
}

// wordsOf answers each text that stands in rules.
func wordsOf(l []impl.Rule) []string {
	var out []string
	for _, r := range l {
		for _, d := range r.Decls {
			out = append(out, d.Name, d.Value)
		}
		for _, p := range slices.Concat(r.Selectors...) {
			out = append(append(out, p.Type, p.Id), p.Classes...)
		}
	}
	return out
}

func TestReadSheetAnswersNewMemory(t *testing.T) {
	s := "g#a.k.l h,*{fill:red;stroke:blue !important}g{fill:red}"
	rules, _ := impl.ReadSheet(s)
	parts, _ := impl.ReadSelector(s[:9])
	decls, _ := impl.ReadStyle(s[12 : len(s)-12])
	whole, ok := impl.ReadSelector("word")
	if len(rules) != 2 || len(parts) != 2 || len(decls) != 2 || !ok {
		t.Fatal(rules, parts, decls)
	}
	all := slices.Concat(wordsOf(rules), wordsOf([]impl.Rule{{Selectors: [][]impl.Part{parts}, Decls: decls}}))
	for k, w := range all {
		if sharesText(w, s) {
			t.Errorf("%q shares its argument's memory", w)
		}
		for _, other := range all[:k] {
			if len(w) > 1 && sharesText(w, other) {
				t.Errorf("%q and %q share memory", w, other)
			}
		}
	}
	word := strings.Repeat("word", 2)
	whole, _ = impl.ReadSelector(word)
	if sharesText(whole[0].Type, word) {
		t.Error("a word shares its argument's memory")
	}
	checkListsApart(t, s)
}

// checkListsApart fills each list of an answer up to its room, and looks whether another one changes.
func checkListsApart(t *testing.T, s string) {
	t.Helper()
	before, _ := impl.ReadSheet(s)
	rules, _ := impl.ReadSheet(s)
	for k := range rules {
		r := &rules[k]
		fill(r.Decls, decl("x", "y"))
		for i := range r.Selectors {
			for j := range r.Selectors[i] {
				fill(r.Selectors[i][j].Classes, "x")
			}
			fill(r.Selectors[i], onePart("x", "y"))
		}
		fill(r.Selectors, byType("x"))
	}
	fill(rules, ruleFor("x"))
	if !sameRules(rules, before) {
		t.Error("two lists of an answer share memory")
	}
	if again, _ := impl.ReadSheet(s); !sameRules(again, before) {
		t.Error("what is answered hangs on an earlier answer")
	}
}

func fill[T any](l []T, v T) {
	for k := len(l); k < cap(l); k++ {
		l[:cap(l)][k] = v
	}
}

func TestReadSheetOfManySizes(t *testing.T) {
	for size := range 70 {
		s := strings.Repeat("x", size)
		n := strconv.Itoa(size)
		checkAsTold(t, s+"{"+s+":"+s+"}")
		checkAsTold(t, "g#"+s+"."+s+"{a:"+s+" !important;"+s+":"+n+"}")
	}
}
