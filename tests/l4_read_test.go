package tests

import (
	"slices"
	"strconv"
	"strings"
	"testing"

	"loop.example/g00137/impl"
)

// here stands in a text of these tests ahead of the byte at which its fault is told; it is taken out again.
const here = "¦"

func checkNodes(t *testing.T, s string, want []impl.Node) {
	t.Helper()
	if d := impl.ReadMarks(s); d.Code != impl.MarkOk || d.At != 0 || !sameNodes(d.Nodes, want) {
		t.Errorf("%q: %v, not %v", s, d, want)
	}
}

func checkFault(t *testing.T, s string, code, at int) {
	t.Helper()
	if d := impl.ReadMarks(s); d.Code != code || d.At != at || len(d.Nodes) != 0 {
		t.Errorf("%q: code %d at %d, %d nodes, not code %d at %d", s, d.Code, d.At, len(d.Nodes), code, at)
	}
}

// checkFaults takes texts in which here tells where the fault is.
func checkFaults(t *testing.T, code int, texts ...string) {
	t.Helper()
	for _, s := range texts {
		ahead, behind, found := strings.Cut(s, here)
		if !found {
			t.Fatalf("%q has no place", s)
		}
		checkFault(t, ahead+behind, code, len(ahead))
	}
}

// ofForm answers a text of the form with s in the place of each of its stars.
func ofForm(form string, s string) string { return strings.ReplaceAll(form, "*", s) }

func TestReadMarksWrittenOtherwise(t *testing.T) {
	a := elementIn(-1, "a")
	cases := map[string][]impl.Node{
		"<a/>": {a}, "<a />": {a}, "<a \t\r\n/>": {a}, "<a></a>": {a}, "<a ></a >": {a}, "<a\n>\n</a\r\t >": {a, textIn(0, "\n")},
		" \t\r\n<a/>\n\r\t ": {a},
		"<?xml?><a/>":        {a}, "<?xml version='1.0'?><a/>": {a}, "<?xml <a>?>\n<a/>": {a}, "<?xmlfoo ? > -->?> <!-- ?> --><a/>": {a}, "<?xml??><a/>": {a},
		"<!----><a/>": {a}, "<!-- <b> & -- ] --><a/><!-- \u00e9 -->": {a}, " <!---> --> <!----><a/> <!--x--><!--y--> ": {a}, "<!-----><a/>": {a},
		"<a><!----></a>": {a}, "<a><!-- <b/> --><!-- & --></a>": {a}, "<a><![CDATA[]]></a>": {a}, "<a><![CDATA[]]><!-- --><![CDATA[]]></a>": {a},
		"<a>b<!-- -->c</a>":                                   {a, textIn(0, "bc")},
		"<a><!-- -->b<!-- --></a>":                            {a, textIn(0, "b")},
		"<a>b<![CDATA[c]]>d</a>":                              {a, textIn(0, "bcd")},
		"<a><![CDATA[<b/>&lt;<!-- -->]]></a>":                 {a, textIn(0, "<b/>&lt;<!-- -->")},
		"<a><![CDATA[]]]></a>":                                {a, textIn(0, "]")},
		"<a><![CDATA[]]]]><![CDATA[>]]></a>":                  {a, textIn(0, "]]>")},
		"<a>]]></a>":                                          {a, textIn(0, "]]>")},
		"<a>-->?>=/'\"></a>":                                  {a, textIn(0, "-->?>=/'\">")},
		"<a> \t\r\n </a>":                                     {a, textIn(0, " \t\r\n ")},
		"<a>&lt;&gt;&amp;&quot;&apos;</a>":                    {a, textIn(0, "<>&\"'")},
		"<a>&amp;lt;</a>":                                     {a, textIn(0, "&lt;")},
		"<a>&#65;&#x42;&#x4a;&#x4A;&#0000067;&#x000044;</a>":  {a, textIn(0, "ABJJCD")},
		"<a>&#9;&#10;&#13;&#32;&#x9;&#xa;&#xD;&#x20;</a>":     {a, textIn(0, "\t\n\r \t\n\r ")},
		"<a>&#127;&#128;&#55295;&#57344;&#xd7ff;&#xE000;</a>": {a, textIn(0, "\x7f\u0080\ud7ff\ue000\ud7ff\ue000")},
		"<a>&#65533;&#65535;&#65536;&#1114111;&#x10ffff;</a>": {a, textIn(0, "\ufffd\uffff\U00010000\U0010ffff\U0010ffff")},
		"<a b='1'/>":                                          {elementIn(-1, "a", "b", "1")},
		"<a b = \"1\"/>":                                      {elementIn(-1, "a", "b", "1")},
		"<a b\n=\t'1' c=\r\"2\"  d\n\n='3'/>":                 {elementIn(-1, "a", "b", "1", "c", "2", "d", "3")},
		"<a b='\"' c=\"'\"/>":                                 {elementIn(-1, "a", "b", "\"", "c", "'")},
		"<a b='' c=\"\"></a>":                                 {elementIn(-1, "a", "b", "", "c", "")},
		"<a b='> /> = &amp;&#x3c;]]>-->'/>":                   {elementIn(-1, "a", "b", "> /> = &<]]>-->")},
		"<a b=' \t\r\n\u20ac '/>":                             {elementIn(-1, "a", "b", " \t\r\n\u20ac ")},
		"<a b='&apos;&quot;'/>":                               {elementIn(-1, "a", "b", "'\"")},
		"<a b='1' B='2'/>":                                    {elementIn(-1, "a", "b", "1", "B", "2")},
		"<a><b></b><b/>t<b>u</b></a>":                         {a, elementIn(0, "b"), elementIn(0, "b"), textIn(0, "t"), elementIn(0, "b"), textIn(4, "u")},
		"<a>\n<b>\n<c/>\n</b>\n</a>":                          {a, textIn(0, "\n"), elementIn(0, "b"), textIn(2, "\n"), elementIn(2, "c"), textIn(2, "\n"), textIn(0, "\n")},
		"<a>1<b/><!-- -->2<!-- --></a>":                       {a, textIn(0, "1"), elementIn(0, "b"), textIn(0, "2")},
		"<a>1<!-- --><b/>2</a><!-- -->":                       {a, textIn(0, "1"), elementIn(0, "b"), textIn(0, "2")},
		"<a><a><a/></a><a></a></a>":                           {a, elementIn(0, "a"), elementIn(1, "a"), elementIn(0, "a")},
		"<_.-:9/>":                                            {elementIn(-1, "_.-:9")},
	}
	for s, want := range cases {
		checkNodes(t, s, want)
	}
}

func TestReadMarksLong(t *testing.T) {
	full := "<a>" + strings.Repeat("x", impl.MaxMarks-7) + "</a>"
	checkNodes(t, full, []impl.Node{elementIn(-1, "a"), textIn(0, full[3:len(full)-4])})
	checkFault(t, full+" ", impl.MarkLong, 0)
	checkFault(t, "\xff"+full, impl.MarkLong, 0)
	checkFault(t, strings.Repeat("x", impl.MaxMarks+1), impl.MarkLong, 0)
	checkFault(t, strings.Repeat("x", 1000000), impl.MarkLong, 0)
	checkFault(t, strings.Repeat("x", impl.MaxMarks), impl.MarkForm, 0)
	checkFault(t, strings.Repeat(" ", impl.MaxMarks), impl.MarkForm, impl.MaxMarks)
	checkFault(t, strings.Repeat("\x00", impl.MaxMarks), impl.MarkByte, 0)
	checkNodes(t, "<a/>"+strings.Repeat(" ", impl.MaxMarks-4), []impl.Node{elementIn(-1, "a")})
	checkNodes(t, "<a>"+strings.Repeat("<!---->", 427)+" </a>", []impl.Node{elementIn(-1, "a"), textIn(0, " ")})
}

func TestReadMarksByte(t *testing.T) {
	forms := []string{"*", "<a>*</a>", "<a/>*", "*<a/>", "<a b='*'/>", "<!--*--><a/>", "<?xml*?><a/>", "<a><![CDATA[*]]></a>", "<a*/>", "<*/>", "<a>&*;</a>", "</x>*", "<a>&x;</a>*", "<a></b>*", "<!DTD>*", "<a b='' b=''>*"}
	for _, form := range forms {
		ahead, _, _ := strings.Cut(form, "*")
		for _, s := range badTexts() {
			good := strings.TrimLeft(s, "a")
			checkFault(t, ofForm(form, s), impl.MarkByte, len(ahead)+len(s)-len(good))
		}
		checkFault(t, ofForm(form, "\u00e9\u20ac\U0001f600\xc3")+"\x00", impl.MarkByte, len(ahead)+9)
	}
	for c := range 32 {
		if c != 9 && c != 10 && c != 13 {
			checkFault(t, "<a>"+string(rune(c))+"</a>", impl.MarkByte, 3)
		}
	}
	checkNodes(t, "<a>\x7f\u0080\ufffe\uffff</a>", []impl.Node{elementIn(-1, "a"), textIn(0, "\x7f\u0080\ufffe\uffff")})
}

func TestReadMarksForm(t *testing.T) {
	checkFaults(t, impl.MarkForm,
		"¦", " \n¦", "<?xml?>¦", "<?xml?> <!-- -->¦",
		"¦x", "¦a<a/>", " ¦&lt;<a/>", "¦></a>", "<!-- -->¦]]><a/>", "\t¦\ufeff<a/>",
		"<¦", "<¦>", "<¦ a/>", "<¦/a>", "<¦1/>", "<¦-a/>", "<¦.a/>", "<¦:a/>", "<¦\u00e9/>", "<¦='1'/>", "<¦?xm?><a/>", "<¦?XML?><a/>", " <¦?xml?><a/>", "<!----><¦?xml?><a/>", "<?xml?><¦?xml?><a/>",
		"<a¦", "<a ¦", "<a/¦", "<a /¦ >", "<a¦\u00e9/>", "<a¦=''/>", "<a¦'1'/>", "<a¦<b/>", "<a/¦/>", "<a/¦ >", "<a ¦=''/>", "<a ¦'1'/>", "<a ¦</a>", "<a ¦1=''/>",
		"<a b¦", "<a b¦/>", "<a b¦>", "<a b ¦>", "<a b ¦c=''/>", "<a b¦'1'/>", "<a b¦\u00e9=''/>",
		"<a b=¦", "<a b= ¦", "<a b=¦/>", "<a b=¦1/>", "<a b=¦=''/>", "<a b=¦&quot;1&quot;/>", "<a b=¦>", "<a b= ¦`1`/>",
		"<a b='¦", "<a b='1¦", "<a b='1\">¦", "<a b=\"1'>¦", "<a b='¦<'/>", "<a b='1¦<b/>'/>", "<a b=\"&lt;¦<\"/>", "<a b='¦<![CDATA[x]]>'/>", "<a b='¦<!-- -->'/>", "<a b='¦</a>'/>",
		"<a b=''¦", "<a b=''¦c=''/>", "<a b=''¦'/>", "<a b='' ¦,/>", "<a b=''¦=''/>", "<a b='1' ¦",
		"<a>¦", "<a>t¦", "<a/>¦x", "<a/>¦<b/>", "<a/> ¦</a>", "<a></a>¦</a>", "<a/>¦<", "<a/>¦<?xml?>", "<a/>¦&lt;", "<a/><!-- -->¦t", "<a/>\n¦>", "<a></a>¦<a></a>",
		"<a><¦", "<a><¦ b/>", "<a><¦>", "<a><¦<b/></a>", "<a><¦1/></a>", "<a><¦?xml?></a>", "<a>t<¦&amp;</a>", "<a><b/><¦=/></a>",
		"<a></¦", "<a></¦>", "<a></¦ a>", "<a></¦1>", "<a></a¦", "<a></a ¦", "<a></a¦/>", "<a></a ¦b>", "<a></a¦<b/>", "<a></a ¦a=''>", "<a></a¦\u00e9>",
		"¦<!--", "¦<!-- ->", "¦<!-->", "¦<!--->", "¦<!-- -- ><a/>", " ¦<!--<a/>", "<a/>¦<!--", "<a/> ¦<!-- -", "<a>¦<!--</a>", "<a>t¦<!-- --!></a>", "<!-- -->¦<!-- ",
		"<a>¦<![CDATA[", "<a>t¦<![CDATA[x]]</a>", "<a>¦<![CDATA[]>", "<a><![CDATA[]]>¦<![CDATA[</a>", "<a>¦<![CDATA[ ]] ></a>",
		"¦<![CDATA[x]]>", "¦<![CDATA[x]]><a/>", "<a/>¦<![CDATA[]]>", "<a/> ¦<![CDATA[",
		"¦<?xml", "¦<?xml><a/>", "¦<?xml ? ><a/>", "¦<?xmlx",
	)
}

func TestReadMarksLongNames(t *testing.T) {
	long := name30 + "x"
	for _, s := range []string{long, strings.Repeat("a", 31), strings.Repeat("_", 100), long + long} {
		checkFaults(t, impl.MarkForm, "<¦"+s, "<¦"+s+"/>", "<a ¦"+s+"=''/>", "<a b='' ¦"+s, "<a></¦"+s+">", "<"+name30+"></¦"+s+">", "<a><¦"+s+"/></a>")
	}
	checkNodes(t, "<"+name30+" "+name30+"=''></"+name30+">", []impl.Node{elementIn(-1, name30, name30, "")})
	checkFaults(t, impl.MarkForm, "<"+name30+"¦", "<"+name30+" "+name30+"¦\u00e9=''/>", "<"+name30+"¦+/>")
}

func TestReadMarksBytesOfNames(t *testing.T) {
	const letters = "ABCDEFGHIJKLMNOPQRSTUVWXYZabcdefghijklmnopqrstuvwxyz_"
	for c := rune(32); c < 300; c++ {
		s := string(c)
		first := strings.ContainsRune(letters, c)
		later := first || strings.ContainsRune("0123456789-:.", c)
		if first {
			checkNodes(t, "<"+s+" "+s+"=''></"+s+">", []impl.Node{elementIn(-1, s, s, "")})
		}
		if later {
			checkNodes(t, "<a"+s+" b"+s+"=''></a"+s+">", []impl.Node{elementIn(-1, "a"+s, "b"+s, "")})
		}
		if !first && c != '!' {
			checkFault(t, "<"+s+"b/>", impl.MarkForm, 1)
			checkFault(t, "<a></"+s+"a>", impl.MarkForm, 5)
		}
		if !first && !strings.ContainsRune(" />", c) {
			checkFault(t, "<a "+s+"b=''/>", impl.MarkForm, 3)
		}
		if !later && !strings.ContainsRune(" />", c) {
			checkFault(t, "<a"+s+"/>", impl.MarkForm, 2)
		}
		if !later && !strings.ContainsRune(" =", c) {
			checkFault(t, "<a b"+s+"=''/>", impl.MarkForm, 4)
		}
		if !later && !strings.ContainsRune(" >", c) {
			checkFault(t, "<a></a"+s+">", impl.MarkForm, 6)
		}
	}
}

// fullOfAttrs answers the text of MaxAttrs attributes.
func fullOfAttrs() string {
	many := ""
	for k := range impl.MaxAttrs {
		many += " n" + strconv.Itoa(k) + "=''"
	}
	return many
}

func TestReadMarksTwice(t *testing.T) {
	checkFaults(t, impl.MarkTwice,
		"<a b='1' ¦b='1'/>", "<a b='1' ¦b='2'/>", "<a b='' c='' ¦b='' d='' c=''/>", "<a c='' b=''\n\t¦b = ''/>", "<a><b x='' ¦x=''/></a>",
		"<a b='' ¦b", "<a b='' ¦b/>", "<a b='' ¦b=1/>", "<a b='' ¦b='<'/>", "<a b='' ¦b='&x;'/>", "<a b='' ¦b=''b=''/>", "<a b='' ¦b\u00e9=''/>",
		"<a b-='' b='' ¦b-=''/>", "<"+name30+" "+name30+"='' ¦"+name30+"=''/>",
	)
	many := fullOfAttrs()
	checkNodes(t, "<a"+many+"/>", []impl.Node{elementIn(-1, "a", "n0", "", "n1", "", "n2", "", "n3", "", "n4", "", "n5", "", "n6", "", "n7", "", "n8", "", "n9", "", "n10", "", "n11", "")})
	for k := range impl.MaxAttrs {
		checkFaults(t, impl.MarkTwice, "<a"+many+" ¦n"+strconv.Itoa(k)+"=''/>", "<a"+many+" ¦n"+strconv.Itoa(k)+"<")
	}
	checkFaults(t, impl.MarkMany, "<a"+many+" ¦n12=''/>", "<a"+many+" ¦N0=''/>", "<a"+many+" ¦m", "<a"+many+" ¦m=1", "<a"+many+" ¦m='' m=''/>", "<x><a"+many+"/><b"+many+"\n¦y='<'/></x>")
	checkFaults(t, impl.MarkForm, "<a"+many+" ¦1=''/>", "<a"+many+" ¦"+name30+"x=''/>", "<a"+many+"¦m=''/>", "<a"+many+" ¦")
}

func TestReadMarksEnd(t *testing.T) {
	checkFaults(t, impl.MarkEnd,
		"<a></¦b>", "<a></¦A>", "<a></¦aa>", "<aa></¦a>", "<a></¦b", "<a></¦b <", "<a></¦b\u00e9", "<a></¦a:>", "<a>t</¦b>",
		"<a><b></¦a></b>", "<a><b></b></¦b>", "<a><b/></¦b>", "<a><b><c/></b></¦c>", "<a><a><b></¦a></a></a>", "<a><b></¦c></a>",
		"<"+name30+"></¦"+name30[:29]+">", "<ab></¦a", "<a>&lt;<!-- --></¦b>",
	)
	checkFaults(t, impl.MarkForm, "<a></¦1>", "<a></¦>", "<a></¦"+name30+"x>", "<a></a ¦b>")
}

// begins answers count elements that begin in each other, the first one r.
func begins(count int) string { return "<r>" + strings.Repeat("<e>", count-1) }

// ends answers the ends of those.
func ends(count int) string { return strings.Repeat("</e>", count-1) + "</r>" }

func TestReadMarksDeep(t *testing.T) {
	full := begins(impl.MaxDeep)
	for _, inside := range []string{"", "t", "<!-- -->", "t&lt;<![CDATA[<e>]]>"} {
		if d := impl.ReadMarks(full + inside + ends(impl.MaxDeep)); d.Code != impl.MarkOk || len(d.Nodes) < impl.MaxDeep {
			t.Error(inside, d)
		}
	}
	checkFaults(t, impl.MarkDeep,
		full+"¦<e/>"+ends(impl.MaxDeep), full+"¦<e></e>"+ends(impl.MaxDeep), full+"¦<e", full+"¦<e b=1>", full+"¦<e\u00e9", full+"¦<e<", full+"¦<e b='' b=''/>",
		full+"text<!-- -->¦<e/>", full+"</e><e></e><e>¦<f><g/>", full+"¦<"+name30,
	)
	checkFaults(t, impl.MarkForm, full+"<¦", full+"<¦ e>", full+"<¦1>", full+"<¦"+name30+"x>", full+"¦<!--")
	checkFaults(t, impl.MarkEntity, full+"¦&x;<e/>")
	checkFaults(t, impl.MarkDtd, full+"¦<!e/>")
	checkNodes(t, begins(impl.MaxDeep)+"</e><e/>"+ends(impl.MaxDeep-1), append(impl.ReadMarks(full+ends(impl.MaxDeep)).Nodes, elementIn(impl.MaxDeep-2, "e")))
}

func TestReadMarksMany(t *testing.T) {
	full := "<r>" + strings.Repeat("<e/>", impl.MaxNodes-1)
	less := "<r>" + strings.Repeat("<e/>", impl.MaxNodes-2)
	good := impl.ReadMarks(full + "</r>").Nodes
	if len(good) != impl.MaxNodes || !impl.GoodNodes(good) {
		t.Error(good)
	}
	checkNodes(t, full+"<!-- --><![CDATA[]]></r>", good)
	checkNodes(t, less+"t<!-- --></r>", append(good[:impl.MaxNodes-1:impl.MaxNodes-1], textIn(0, "t")))
	checkFaults(t, impl.MarkMany,
		full+"¦<e/></r>", full+"<!-- -->¦<e", full+"¦<e b=1", full+"¦<f\u00e9", full+"¦<f b='' b=''/>",
		full+"t¦</r>", full+"t¦</x>", full+"t¦</", full+"t¦<e/></r>", full+"t¦<1", full+"t¦<", full+"t<!-- -->u<!-- -->¦</r>", full+"&lt;¦</r>", full+"<![CDATA[t]]>¦</r>", full+"\n¦</r>",
		less+"t¦<e/></r>", less+"<e>t¦</e></r>", less+"t<!-- -->¦<e></r>",
	)
	checkFaults(t, impl.MarkForm, full+"<¦", full+"<¦1/>", full+"<¦"+name30+"x", full+"¦", full+"t¦", full+"t¦<!--", full+"</r¦", full+"</r>¦t", full+"</r>¦<e/>")
	checkFaults(t, impl.MarkEntity, full+"t¦&x;</r>")
	checkFaults(t, impl.MarkDtd, full+"t¦<!x></r>")
	checkFaults(t, impl.MarkEnd, full+"</¦x>")
}

func TestReadMarksDeepAheadOfMany(t *testing.T) {
	few := "<r>" + strings.Repeat("<e/>", impl.MaxNodes-impl.MaxDeep)
	full := few + strings.Repeat("<e>", impl.MaxDeep-1)
	if d := impl.ReadMarks(full + ends(impl.MaxDeep)); len(d.Nodes) != impl.MaxNodes {
		t.Error(d)
	}
	checkFaults(t, impl.MarkDeep, full+"¦<e/>", full+"<!-- -->¦<e")
	checkFaults(t, impl.MarkMany, full+"t¦<e/>", full+"</e>¦<e/>", few+strings.Repeat("<e>", impl.MaxDeep-2)+"t¦<e><e/>")
}

func TestReadMarksEntity(t *testing.T) {
	wrong := []string{
		"&", "&;", "& ", "&&amp;", "&x;", "&lt", "&lt ;", "& lt;", "&LT;", "&Amp;", "&amp", "&am;", "&amps;", "&nbsp;", "&quo;", "&apo;", "&apost;", "&gtt;",
		"&#", "&#;", "&#x;", "&#x", "&#65", "&#x41", "&# 65;", "&#65 ;", "&#+65;", "&#-65;", "&#x+41;", "&#6_5;", "&#x4_1;", "&#6a;", "&#xg;", "&#X41;", "&#0x41;", "&#x0x41;", "&#xx41;", "&##65;", "&#6.5;", "&x41;", "&65;", "&#\u0661;",
		"&#00000065;", "&#x00000041;", "&#0000000065;", "&#10000000;", "&#4294967361;", "&#18446744073709551681;", "&#x100000041;",
		"&#0;", "&#1;", "&#8;", "&#11;", "&#12;", "&#14;", "&#31;", "&#x0;", "&#x1f;", "&#xB;", "&#0000000;",
		"&#55296;", "&#57343;", "&#56000;", "&#xd800;", "&#xDFFF;", "&#1114112;", "&#x110000;", "&#9999999;", "&#xfffffff;", "&#xFFFFFFF;",
	}
	for _, s := range wrong {
		checkFaults(t, impl.MarkEntity,
			"<a>¦"+s, "<a>¦"+s+"</a>", "<a>t&lt;¦"+s+"</a>", "<a><b/>¦"+s+" </a>", "<a>\u20ac<![CDATA[&]]>¦"+s+"</a>",
			"<a b='¦"+s, "<a b='¦"+s+"'/>", "<a b=\"t&#x20;¦"+s+"\"/>", "<a b='&amp;' c='\u20ac¦"+s+"<'/>",
		)
	}
	for c := range rune(0x3000) {
		for _, n := range []string{"#" + strconv.Itoa(int(c)), "#x" + strconv.FormatInt(int64(c), 16), "#x" + strings.ToUpper(strconv.FormatInt(int64(c), 16))} {
			if c >= 32 || c == 9 || c == 10 || c == 13 {
				checkNodes(t, "<a b='&"+n+";'>&"+n+";</a>", []impl.Node{elementIn(-1, "a", "b", string(c)), textIn(0, string(c))})
			} else {
				checkFault(t, "<a>&"+n+";</a>", impl.MarkEntity, 3)
			}
		}
	}
}

func TestReadMarksDtd(t *testing.T) {
	for _, s := range []string{"<!", "<!>", "<!DOCTYPE a>", "<!ELEMENT a>", "<!-", "<!- -->", "<!->", "<! -- -->", "<![", "<![CDATA", "<![CDATA ", "<![cdata[x]]>", "<![ CDATA[x]]>", "<![CDATA [x]]>", "<!CDATA[", "<!a/>", "<!\u00e9", "<!<a/>", "<!/>", "<!?xml?>"} {
		checkFaults(t, impl.MarkDtd,
			"¦"+s, " \n¦"+s+"<a/>", "<?xml?>¦"+s, "<!-- -->¦"+s+"<a/>", "<a/>¦"+s, "<a></a> <!-- -->\n¦"+s,
			"<a>¦"+s, "<a>¦"+s+"</a>", "<a>t<b/>¦"+s+"</a>", "<a><![CDATA[x]]>¦"+s+"</a>", "<a><b></b>&lt;¦"+s,
		)
	}
}

type fault struct {
	text string
	code int
}

// someFaults are texts with a fault that is met ahead of their end, so that nothing that comes behind changes it.
func someFaults() []fault {
	many := fullOfAttrs()
	return []fault{
		{"¦x", impl.MarkForm}, {"<¦1", impl.MarkForm}, {"<a¦<", impl.MarkForm}, {"<a b¦'", impl.MarkForm}, {"<a b='¦<", impl.MarkForm}, {"<a b=''¦c", impl.MarkForm}, {"<a/>¦x", impl.MarkForm}, {"<a/>¦</", impl.MarkForm}, {"<a></¦1", impl.MarkForm}, {"<¦" + name30 + "x", impl.MarkForm},
		{"<a b='' ¦b=", impl.MarkTwice}, {"<a" + many + " ¦n3 ", impl.MarkTwice},
		{"<a></¦b>", impl.MarkEnd}, {"<a><b></¦a>", impl.MarkEnd},
		{begins(impl.MaxDeep) + "¦<e>", impl.MarkDeep},
		{"<r>" + strings.Repeat("<e/>", impl.MaxNodes-1) + "¦<e>", impl.MarkMany}, {"<r>" + strings.Repeat("<e/>", impl.MaxNodes-1) + "t¦</", impl.MarkMany}, {"<a" + many + " ¦m ", impl.MarkMany},
		{"<a>¦&x;", impl.MarkEntity}, {"<a b='¦&;", impl.MarkEntity},
		{"¦<!DOCTYPE", impl.MarkDtd}, {"<a>t¦<!x", impl.MarkDtd}, {"<a/>¦<!x", impl.MarkDtd},
	}
}

func TestReadMarksFirstFaultCounts(t *testing.T) {
	for _, first := range someFaults() {
		checkFaults(t, first.code, first.text)
		for _, second := range someFaults() {
			checkFaults(t, first.code, first.text+strings.Replace(second.text, here, "", 1))
		}
		plain := strings.Replace(first.text, here, "", 1)
		for _, s := range badTexts() {
			good := strings.TrimLeft(s, "a")
			checkFault(t, plain+" "+s, impl.MarkByte, len(plain)+1+len(s)-len(good))
			checkFault(t, plain+" "+s+plain, impl.MarkByte, len(plain)+1+len(s)-len(good))
		}
		checkFault(t, plain+strings.Repeat(" ", impl.MaxMarks), impl.MarkLong, 0)
		checkFault(t, plain+strings.Repeat("\xff", impl.MaxMarks), impl.MarkLong, 0)
	}
}

// What a text is cut into for TestReadMarksCutOff, by what a cut inside is answered by.
const (
	cutPlain  = iota // MarkForm at the cut
	cutEntity        // MarkEntity at its first byte
	cutWhole         // MarkForm at its first byte once it has begun; MarkDtd ahead of that
	cutProlog        // MarkForm at its first byte once it has begun
	cutEnd           // MarkEnd at its name, as long as that is not whole
)

type cutPiece struct {
	kind  int
	text  string
	begin int // of how many bytes it takes to begin
}

func faultOfCut(p cutPiece, from, cut int) (int, int) {
	inside := cut - from
	switch {
	case inside == 0 || p.kind == cutPlain:
		return impl.MarkForm, cut
	case p.kind == cutEntity:
		return impl.MarkEntity, from
	case p.kind == cutEnd && inside > 2 && inside < p.begin:
		return impl.MarkEnd, from + 2
	case p.kind == cutEnd || inside == 1:
		return impl.MarkForm, cut
	case inside >= p.begin:
		return impl.MarkForm, from
	case p.kind == cutProlog:
		return impl.MarkForm, from + 1
	}
	return impl.MarkDtd, from
}

func TestReadMarksCutOff(t *testing.T) {
	pieces := []cutPiece{
		{cutProlog, "<?xml version='1.0'?>", 5}, {cutPlain, "\n ", 0}, {cutWhole, "<!-- a -- b -->", 4}, {cutPlain, " <abc  d = '", 0}, {cutEntity, "&lt;", 0}, {cutPlain, "1", 0}, {cutEntity, "&#x20;", 0}, {cutPlain, "' ef=\"2\" >text ", 0},
		{cutEntity, "&#65;", 0}, {cutEntity, "&quot;", 0}, {cutWhole, "<![CDATA[ <x> ]] ]]>", 9}, {cutPlain, "<gh/>]]>", 0}, {cutWhole, "<!---->", 4}, {cutPlain, "<ijk>l", 0}, {cutEnd, "</ijk\n>", 5}, {cutPlain, "<m\n/>\n", 0}, {cutEnd, "</abc>", 5},
	}
	whole := ""
	for _, p := range pieces {
		whole += p.text
	}
	want := []impl.Node{elementIn(-1, "abc", "d", "<1 ", "ef", "2"), textIn(0, "text A\" <x> ]] "), elementIn(0, "gh"), textIn(0, "]]>"), elementIn(0, "ijk"), textIn(4, "l"), elementIn(0, "m"), textIn(0, "\n")}
	checkNodes(t, whole, want)
	checkNodes(t, whole+" <!-- -->\n", want)
	from := 0
	for _, p := range pieces {
		for cut := from; cut < from+len(p.text); cut++ {
			code, at := faultOfCut(p, from, cut)
			checkFault(t, whole[:cut], code, at)
		}
		from += len(p.text)
	}
}

// checkAnswer asks for what holds for each answer.
func checkAnswer(t *testing.T, s string) impl.Doc {
	t.Helper()
	d := impl.ReadMarks(s)
	if d.Code == impl.MarkOk && (d.At != 0 || !impl.GoodNodes(d.Nodes)) || d.Code != impl.MarkOk && (len(d.Nodes) != 0 || d.At < 0 || d.At > len(s) || d.Code < 0 || d.Code > impl.MarkDtd) {
		t.Errorf("%q: %v", s, d)
	}
	return d
}

func TestReadMarksOfAnyBytes(t *testing.T) {
	d := dice(577215664901532)
	bits := []string{"<", ">", "/", "</", "/>", "a", "b", " ", "=", "'", "\"", "&", "lt", ";", "#", "x", "6", "<!--", "-->", "<![CDATA[", "]]>", "<?xml", "?>", "!", "\n", "\u20ac", "\xff", "<a>", "</a>", "<b/>"}
	counts := map[int]int{}
	for range 100000 {
		s := ""
		for range d.below(14) {
			s += bits[d.below(len(bits))]
		}
		counts[checkAnswer(t, s).Code]++
		counts[checkAnswer(t, "<a>"+s+"</a>").Code]++
	}
	for _, code := range []int{impl.MarkOk, impl.MarkByte, impl.MarkForm, impl.MarkEnd, impl.MarkEntity, impl.MarkDtd} {
		if counts[code] < 100 {
			t.Error(counts)
		}
	}
	for range 20000 {
		s, _ := impl.MarksText(someNodes(&d))
		for range 1 + d.below(3) {
			at := d.below(len(s) + 1)
			s = s[:at] + bits[d.below(len(bits))] + s[min(len(s), at+d.below(3)):]
		}
		checkAnswer(t, s)
	}
	for range 2000 {
		checkAnswer(t, string(d.bytes(d.below(100), 0, 256)))
	}
}

func TestReadMarksAnswersNewMemory(t *testing.T) {
	s := "<?xml?><name key='value' other=\"\">text<![CDATA[data]]><inner/>more</name>"
	d := impl.ReadMarks(s)
	for _, n := range d.Nodes {
		texts := []string{n.Name, n.Text}
		for _, a := range n.Attrs {
			texts = append(texts, a.Name, a.Value)
		}
		for _, part := range texts {
			if sharesText(part, s) {
				t.Errorf("%q lies in the argument's memory", part)
			}
		}
	}
	twin := "<a b='1' c='2'><d e='3'/><f g='4'/></a>"
	first := impl.ReadMarks(twin)
	for k := range first.Nodes {
		l := first.Nodes[k].Attrs
		for i := range cap(l) {
			l[:cap(l)][i] = impl.Attr{Name: "written", Value: "over"}
		}
		if k+1 < len(first.Nodes) && !slices.Equal(first.Nodes[k+1].Attrs, impl.ReadMarks(twin).Nodes[k+1].Attrs) {
			t.Error("two lists share memory")
		}
	}
	checkNodes(t, twin, []impl.Node{elementIn(-1, "a", "b", "1", "c", "2"), elementIn(0, "d", "e", "3"), elementIn(0, "f", "g", "4")})
}
