package tests

import (
	"strings"
	"testing"

	"loop.example/g00137/impl"
)

// box tells a rect of whole pixels.
func box(x, y, wide, high, more string) string {
	return "<rect x='" + x + "' y='" + y + "' width='" + wide + "' height='" + high + "' " + more + "/>"
}

// all tells a rect over all of a small picture.
func all(more string) string { return box("-5", "-5", "20", "20", more) }

func TestRenderShapes(t *testing.T) {
	checkRender(t, svg4(""), "....", "....", "....", "....")
	checkRender(t, svg4(box("1", "0", "2", "3", "")), ".KK.", ".KK.", ".KK.", "....")
	checkRender(t, svg4("<polygon points='0 0 4 0 4 2 0 2' fill='lime'/>"), "GGGG", "GGGG", "....", "....")
	checkRender(t, svg4("<polyline points='0 0 4 0 4 2 0 2' fill='lime'/>"), "GGGG", "GGGG", "....", "....")
	checkRender(t, svg4("<path d='M1 1h2v2h-2z' fill='blue'/>"), "....", ".BB.", ".BB.", "....")
	checkRender(t, svg4("<circle cx='2' cy='2' r='20' fill='red'/>"), "RRRR", "RRRR", "RRRR", "RRRR")
	checkRender(t, svg4("<ellipse cx='2' cy='2' rx='20' ry='1' fill='red'/>"), "....", "RRRR", "RRRR", "....")
	checkRender(t, svg4("<line x1='0' y1='1.5' x2='4' y2='1.5' stroke='red'/>"), "....", "RRRR", "....", "....")
	checkRender(t, svg4("<line x1='0' y1='1.5' x2='4' y2='1.5' fill='red'/>"), "....", "....", "....", "....")
	// Half of a pixel is eight of its samples.
	checkTints(t, svg("2", "1", "<rect width='1.5' height='1' fill='white'/>"), tint(255, 255, 255, 255), tint(128, 128, 128, 128))
	checkTints(t, svg("1", "1", "<rect width='.5' height='.5' fill='white'/>"), tint(64, 64, 64, 64))
	// What lies beside the picture is not seen; what is passed over is not drawn.
	checkRender(t, svg4(box("4", "0", "9", "9", "")+box("-9", "-9", "9", "99", "")+"<text>x</text><defs>"+box("0", "0", "4", "4", "")+"</defs>"), "....", "....", "....", "....")
}

func TestRenderPlaces(t *testing.T) {
	unit := "<rect width='1' height='1' fill='red'/>"
	checkRender(t, svg4("<g transform='translate(1 2)'>"+unit+"</g>"), "....", "....", ".R..", "....")
	checkRender(t, svg4("<g transform='translate(1 2)'><g transform='scale(2)'>"+unit+"</g></g>"), "....", "....", ".RR.", ".RR.")
	checkRender(t, svg4("<g transform='scale(2)'><g transform='translate(1 1)'>"+unit+"</g></g>"), "....", "....", "..RR", "..RR")
	checkRender(t, "<svg width='4' height='4' transform='scale(2)'>"+unit+"</svg>", "RR..", "RR..", "....", "....")
	checkRender(t, "<svg width='4' height='4' viewBox='0 0 2 2' transform='translate(1)'>"+unit+"</svg>", "..RR", "..RR", "....", "....")
	checkRender(t, svg4("<defs><rect id='a' width='1' height='1' fill='red' transform='scale(2)'/></defs><use href='#a' x='1' y='1'/>"), "....", ".RR.", ".RR.", "....")
	checkRender(t, svg4("<defs><g id='a'>"+unit+"</g></defs><use href='#a'/><use href='#a' x='3'/><use href='#a' y='1' transform='scale(2)'/>"), "R..R", "....", "RR..", "RR..")
	checkRender(t, svg4("<rect width='1' height='1' fill='red' transform='rotate(90) translate(1 -3)'/>"), "....", "..R.", "....", "....")
	checkRender(t, svg4("<rect width='1' height='1' fill='red' transform='matrix(-1 0 0 -1 4 4)'/>"), "....", "....", "....", "...R")
}

func TestRenderFillRules(t *testing.T) {
	both := "<path d='M0 0H4V4H0ZM1 1H3V3H1Z' "
	against := "<path d='M0 0H4V4H0ZM1 1V3H3V1Z' "
	full := []string{"KKKK", "KKKK", "KKKK", "KKKK"}
	hole := []string{"KKKK", "K..K", "K..K", "KKKK"}
	checkRender(t, svg4(both+"/>"), full...)
	checkRender(t, svg4(both+"fill-rule='nonzero'/>"), full...)
	checkRender(t, svg4(both+"fill-rule='evenodd'/>"), hole...)
	checkRender(t, svg4("<g fill-rule='evenodd'>"+both+"/></g>"), hole...)
	checkRender(t, svg4(against+"/>"), hole...)
	checkRender(t, svg4(against+"fill-rule='evenodd'/>"), hole...)
	// A stroke is never even, nor is a clip.
	cross := "<path d='M0 2H4M2 0V4' stroke='red' stroke-width='2' fill='none' fill-rule='evenodd'/>"
	checkRender(t, svg4(cross), ".RR.", "RRRR", "RRRR", ".RR.")
	checkRender(t, svg4("<clipPath id='c' fill-rule='evenodd' clip-rule='evenodd'>"+both+"fill-rule='evenodd' clip-rule='evenodd'/></clipPath>"+all("clip-path='url(#c)' fill-rule='evenodd'")), full...)
	checkRender(t, svg4("<clipPath id='c'>"+against+"/></clipPath>"+all("clip-path='url(#c)'")), hole...)
}

func TestRenderStrokes(t *testing.T) {
	checkRender(t, svg4("<line x1='1' y1='2' x2='3' y2='2' stroke='red' stroke-width='2'/>"), "....", ".RR.", ".RR.", "....")
	checkRender(t, svg4("<line x1='1' y1='2' x2='3' y2='2' stroke='red' stroke-width='2' stroke-linecap='square'/>"), "....", "RRRR", "RRRR", "....")
	checkRender(t, svg4("<line x1='1' y1='2' x2='3' y2='2' stroke='red' stroke-width='2' stroke-linecap='round'/>"), "....", "????", "????", "....")
	checkRender(t, svg4("<line x1='0' y1='.5' x2='4' y2='.5' stroke='red' stroke-dasharray='1'/>"), "R.R.", "....", "....", "....")
	checkRender(t, svg4("<line x1='0' y1='.5' x2='4' y2='.5' stroke='red' stroke-dasharray='2 1'/>"), "RR.R", "....", "....", "....")
	checkRender(t, svg4("<line x1='0' y1='.5' x2='4' y2='.5' stroke='red' stroke-dasharray='0'/>"), "RRRR", "....", "....", "....")
	// The width is that ahead of the move.
	checkRender(t, svg4("<line x2='2' y1='.5' y2='.5' stroke='red' transform='scale(2)'/>"), "RRRR", "RRRR", "....", "....")
	checkRender(t, svg4("<line x2='4' y1='.5' y2='.5' stroke='red' transform='scale(1 3)'/>"), "RRRR", "RRRR", "RRRR", "....")
	checkRender(t, view("0 0 2 2", "<line x2='2' y1='1.5' y2='1.5' stroke='red'/>"), "....", "....", "RRRR", "RRRR")
	// The joins: around the corner there is nothing, or a round one, or half of it.
	corner := "<polyline points='0 3 3 3 3 0' fill='none' stroke='red' stroke-width='2' "
	checkRender(t, svg4(corner+"/>"), "..RR", "..RR", "RRRR", "RRR?")
	s, _ := impl.RenderSheet(svg4(corner + "/>"))
	bevel, _ := impl.RenderSheet(svg4(corner + "stroke-linejoin='bevel'/>"))
	round, _ := impl.RenderSheet(svg4(corner + "stroke-linejoin='round'/>"))
	if !sameSheet(s, bevel) || round.Pixels[15].A <= s.Pixels[15].A || s.Pixels[15].A == 0 || round.Pixels[15].A == 255 {
		t.Error(s.Pixels[15], bevel.Pixels[15], round.Pixels[15])
	}
}

// The stroke lies over the fill, a shape over those ahead of it.
func TestRenderOrder(t *testing.T) {
	framed := box("1", "1", "2", "2", "fill='lime' stroke='red' stroke-width='2' stroke-linejoin='bevel'")
	checkRender(t, svg4(framed), "?RR?", "RRRR", "RRRR", "?RR?")
	checkRender(t, svg("6", "6", box("1", "1", "4", "4", "fill='lime' stroke='red' stroke-width='2'")), "?RRRR?", "RRRRRR", "RRGGRR", "RRGGRR", "RRRRRR", "?RRRR?")
	checkRender(t, svg4(all("fill='red'")+box("1", "1", "2", "2", "fill='lime'")), "RRRR", "RGGR", "RGGR", "RRRR")
	checkRender(t, svg4(box("1", "1", "2", "2", "fill='lime'")+all("fill='red'")), "RRRR", "RRRR", "RRRR", "RRRR")
	checkRender(t, svg4("<g>"+box("0", "0", "2", "2", "fill='lime'")+"</g>"+box("1", "1", "2", "2", "fill='red'")+"<g>"+box("2", "2", "2", "2", "fill='blue'")+"</g>"), "GG..", "GRR.", ".RBB", "..BB")
	half := "fill='red' fill-opacity='.5'"
	checkTints(t, svg("1", "1", all(half)+all(half)), tint(192, 0, 0, 192))
	checkTints(t, svg("1", "1", all("fill='lime'")+all(half)), tint(128, 127, 0, 255))
	checkTints(t, svg("1", "1", all(half)+all("fill='lime'")), tint(0, 255, 0, 255))
	// The fill is seen through the stroke, also where this one covers it.
	checkTints(t, svg("1", "1", "<line x1='-5' x2='5' y1='.5' y2='.5' stroke='blue' stroke-opacity='.5'/>"), tint(0, 0, 128, 128))
	checkTints(t, svg("1", "1", box("-.5", "-.5", "5", "5", "fill='red' stroke='blue' stroke-width='4' stroke-opacity='.5'")), tint(127, 0, 128, 255))
}

func TestRenderParts(t *testing.T) {
	for _, c := range []struct {
		text string
		want impl.Tint
	}{
		{all("fill='white' opacity='.5'"), tint(128, 128, 128, 128)},
		{all("fill='white' fill-opacity='.5'"), tint(128, 128, 128, 128)},
		{all("fill='white' stroke-opacity='.5'"), tint(255, 255, 255, 255)},
		{all("fill='white' opacity='.5' fill-opacity='.5'"), tint(64, 64, 64, 64)},
		{"<g opacity='.5'>" + all("fill='white' opacity='.5' fill-opacity='.5'") + "</g>", tint(32, 32, 32, 32)},
		{"<g fill-opacity='.5'>" + all("fill='white'") + "</g>", tint(128, 128, 128, 128)},
		{"<g fill-opacity='.5'>" + all("fill='white' fill-opacity='1'") + "</g>", tint(255, 255, 255, 255)},
		{"<g opacity='.5'><g opacity='0.5'>" + all("fill='#ff8000'") + "</g></g>", tint(64, 32, 0, 64)},
		{all("fill='white' opacity='0'"), tint(0, 0, 0, 0)},
		{all("fill='white' opacity='9' fill-opacity='9'"), tint(255, 255, 255, 255)},
		{all("fill='white' opacity='-1'"), tint(0, 0, 0, 0)},
		// 4 of 256 times 32 of 256 is nearest to 1, times 31 to 0.
		{all("fill='white' opacity='.015625' fill-opacity='.125'"), tint(1, 1, 1, 1)},
		{all("fill='white' opacity='.015625' fill-opacity='.1211'"), tint(0, 0, 0, 0)},
		{"<line x1='-9' x2='9' stroke='white' stroke-width='9' opacity='.5' stroke-opacity='.25' fill-opacity='0'/>", tint(32, 32, 32, 32)},
		{"<line x1='-9' x2='9' stroke='white' stroke-width='9' fill-opacity='0'/>", tint(255, 255, 255, 255)},
		{"<defs>" + all("id='a' opacity='.5' fill='white'") + "</defs><g opacity='.5'><use href='#a' opacity='.5'/></g>", tint(32, 32, 32, 32)},
	} {
		checkTints(t, svg("1", "1", c.text), c.want)
	}
	checkTints(t, "<svg width='1' height='1' opacity='.5'>"+all("fill='white'")+"</svg>", tint(128, 128, 128, 128))
}

// clipped tells a red rect over all that is clipped by what stands in a clipPath.
func clipped(inside, more string) string {
	return svg4("<clipPath id='c'>" + inside + "</clipPath>" + all("fill='red' clip-path='url(#c)' "+more))
}

func TestRenderClips(t *testing.T) {
	nothing := []string{"....", "....", "....", "...."}
	full := []string{"RRRR", "RRRR", "RRRR", "RRRR"}
	checkRender(t, clipped(box("1", "1", "2", "2", ""), ""), "....", ".RR.", ".RR.", "....")
	checkRender(t, clipped("", ""), nothing...)
	checkRender(t, clipped("text<g>"+all("")+"</g><use href='#r'/>", "id='r'"), nothing...)
	checkRender(t, clipped(box("0", "0", "0", "4", ""), ""), nothing...)
	// Several shapes are one, also where they lie over one another.
	checkRender(t, clipped(box("0", "0", "2", "2", "")+box("1", "1", "2", "2", "")+"text"+box("3", "3", "1", "1", ""), ""), "RR..", "RRR.", ".RR.", "...R")
	// Of two that turn against one another nothing is left where both are.
	checkRender(t, clipped(box("0", "0", "3", "3", "")+"<path d='M1 1V4H4V1Z'/>", ""), "RRR.", "R..R", "R..R", ".RRR")
	// Only the lines of its shapes count, not how they would be drawn.
	for _, more := range []string{"fill='none'", "fill='x'", "opacity='0'", "opacity='x'", "display='none'", "visibility='hidden'", "stroke='red' stroke-width='9'", "stroke-width='x'", "fill-opacity='0'", "clip-path='url(#c)'", "stroke-dasharray='x'"} {
		checkRender(t, clipped(box("1", "1", "2", "2", more), ""), "....", ".RR.", ".RR.", "....")
	}
	// The clipPath's own attributes, and what is around it, are nothing.
	checkRender(t, svg4("<g transform='x' display='none'><clipPath id='c' transform='translate(1)' clip-path='url(#d)' display='none'>"+box("1", "1", "2", "2", "")+"</clipPath></g><clipPath id='d'/>"+all("fill='red' clip-path='url(#c)'")), "....", ".RR.", ".RR.", "....")
	for _, value := range []string{"none", "url(#d)", "url(#none)", "url(#)", "url(c)", "URL(#c)", "url( #c)", "url(#c) x", "x", "inherit", "currentColor", "c", "#c", "url(#r)", "url(#g)"} {
		checkRender(t, svg4("<clipPath id='c'/><ClipPath id='d'/><linearGradient id='g'/>"+all("fill='red' id='r' clip-path='"+value+"'")), full...)
	}
	checkRender(t, svg4("<clipPath id='c'/>"+all("fill='red' clip-path=' url(#c)\n'")), nothing...)
	checkRender(t, svg4("<style>rect{clip-path:url(#c)}</style><clipPath id='c'/>"+all("fill='red'")), nothing...)
	checkRender(t, svg4("<clipPath id='c'/>"+all("fill='red' style='clip-path:url(#c)'")), nothing...)
	// The first element of the id counts, whatever it is.
	checkRender(t, svg4("<g id='c'/><clipPath id='c'/>"+all("fill='red' clip-path='url(#c)'")), full...)
	// A stroke is clipped, too.
	checkRender(t, svg4("<clipPath id='c'>"+box("1", "1", "2", "2", "")+"</clipPath><line x1='-9' x2='9' y1='2' y2='2' stroke='red' stroke-width='9' clip-path='url(#c)'/>"), "....", ".RR.", ".RR.", "....")
	// Samples of the same half meet by numbers: half of a half.
	checkTints(t, svg("1", "1", "<clipPath id='c'><rect width='.5' height='1'/></clipPath><rect width='.5' height='1' fill='white' clip-path='url(#c)'/>"), tint(64, 64, 64, 64))
}

func TestRenderClipsAlongThePath(t *testing.T) {
	left := "<clipPath id='l'>" + box("0", "0", "2", "4", "") + "</clipPath>"
	upper := "<clipPath id='u'>" + box("0", "0", "4", "2", "") + "</clipPath>"
	red := "fill='red'"
	checkRender(t, svg4(left+upper+"<g clip-path='url(#l)'>"+all(red+" clip-path='url(#u)'")+"</g>"), "RR..", "RR..", "....", "....")
	checkRender(t, svg4(left+upper+"<g clip-path='url(#l)'>"+all(red)+"</g>"), "RR..", "RR..", "RR..", "RR..")
	checkRender(t, svg4(left+upper+"<g clip-path='url(#l)'><g clip-path='url(#x)'>"+all(red)+"</g></g>"+box("3", "3", "1", "1", red)), "RR..", "RR..", "RR..", "RR.R")
	checkRender(t, "<svg width='4' height='4' clip-path='url(#u)'>"+left+upper+all(red)+"</svg>", "RRRR", "RRRR", "....", "....")
	checkRender(t, svg4(left+upper+"<defs>"+all(red+" id='a'")+"</defs><use href='#a' clip-path='url(#u)'/>"), "RRRR", "RRRR", "....", "....")
	// A clip lies where the element is that asks for it, not where the shape is.
	checkRender(t, svg4(left+"<g clip-path='url(#l)' transform='translate(1)'><g transform='scale(9)'>"+all(red)+"</g></g>"), ".RR.", ".RR.", ".RR.", ".RR.")
	checkRender(t, svg4(left+"<g transform='translate(1)'>"+all(red+" clip-path='url(#l)' transform='scale(.5 9)'")+"</g>"), ".R..", ".R..", ".R..", ".R..")
	checkRender(t, svg4(left+"<defs>"+all(red+" id='a'")+"</defs><use href='#a' clip-path='url(#l)' x='2'/>"), "..RR", "..RR", "..RR", "..RR")
	checkRender(t, view("0 0 2 2", left+all(red+" clip-path='url(#l)'")), "RRRR", "RRRR", "RRRR", "RRRR")
	checkRender(t, view("-1 0 2 2", left+all(red+" clip-path='url(#l)'")), "..RR", "..RR", "..RR", "..RR")
	// And the shape in it has its own transform within that place.
	own := "<clipPath id='o'>" + box("0", "0", "1", "1", "transform='translate(1 1)'") + "</clipPath>"
	checkRender(t, svg4(own+all(red+" clip-path='url(#o)'")), "....", ".R..", "....", "....")
	checkRender(t, view("0 0 2 2", own+all(red+" clip-path='url(#o)'")), "....", "....", "..RR", "..RR")
	checkRender(t, svg4(own+"<g transform='scale(2)' clip-path='url(#o)'>"+all(red)+"</g>"), "....", "....", "..RR", "..RR")
	// The same one twice on the way counts twice, each time in its place.
	shifted := "<clipPath id='s'>" + box("0", "0", "3", "4", "") + "</clipPath>"
	checkRender(t, svg4(shifted+"<g clip-path='url(#s)'><g transform='translate(1)' clip-path='url(#s)'>"+all(red)+"</g></g>"), ".RR.", ".RR.", ".RR.", ".RR.")
	half := "<clipPath id='h'><rect width='.5' height='1'/></clipPath>"
	checkTints(t, svg("1", "1", half+"<g clip-path='url(#h)'>"+all("fill='white' clip-path='url(#h)'")+"</g>"), tint(64, 64, 64, 64))
	checkTints(t, svg("1", "1", half+"<g clip-path='url(#h)'><g clip-path='url(#h)'>"+all("fill='white' clip-path='url(#h)'")+"</g></g>"), tint(32, 32, 32, 32))
	// Clips are met with one another first, and then with the fill: the rounding tells.
	met := func(a, b, c int) int {
		m, _ := impl.MeetMasks(maskOf(1, 1, a), maskOf(1, 1, b))
		m, _ = impl.MeetMasks(maskOf(1, 1, c), m)
		return m.Cover[0]
	}
	different := 0
	for a := range 17 {
		for b := range 17 {
			for c := range 17 {
				if met(a, b, c) == met(a, c, b) {
					continue
				}
				different++
				if different > 60 {
					return
				}
				clips := "<clipPath id='a'>" + samples(a) + "</clipPath><clipPath id='b'>" + samples(b) + "</clipPath>"
				path := strings.Replace(samples(c), "<path", "<path clip-path='url(#b)' fill='white'", 1)
				x := thinAsTold(tint(255, 255, 255, 255), 16*met(a, b, c))
				checkTints(t, svg("1", "1", clips+"<g clip-path='url(#a)'>"+path+"</g>"), x)
			}
		}
	}
}

// samples tells a path that covers so many samples of the pixel 0, 0.
func samples(count int) string {
	out := "<path d='M0 0"
	for k := range count {
		x, y := []string{"0", ".25", ".5", ".75"}[k%4], []string{"0", ".25", ".5", ".75"}[k/4]
		out += "M" + x + " " + y + "h.25v.25h-.25"
	}
	return out + "'/>"
}

func TestRenderClipFaults(t *testing.T) {
	for _, wrong := range []string{"<rect x='x'/>", "<rect width='-1'/>", "<circle r='x'/>", "<path d='x'/>", "<polygon points='1'/>", "<rect transform='x'/>", "<rect width='1' height='1' transform='scale(65537)'/>", box("0", "0", "1", "1", "") + "<line x1='x'/>"} {
		checkRenderCode(t, impl.RenderValue, clipped(wrong, ""), clipped(wrong, "opacity='0'"), svg4("<clipPath id='c'>"+wrong+"</clipPath><rect clip-path='url(#c)' fill='none'/>"), svg4("<clipPath id='c'>"+wrong+"</clipPath><g clip-path='url(#c)'><rect/></g>"))
		// Nothing is looked at where nothing is clipped by it.
		checkRender(t, svg4("<clipPath id='c'>"+wrong+"</clipPath><g clip-path='url(#c)'/>"+all("fill='red'")), "RRRR", "RRRR", "RRRR", "RRRR")
		checkRender(t, clipped("<g>"+wrong+"</g>"+all(""), ""), "RRRR", "RRRR", "RRRR", "RRRR")
	}
	for _, far := range []string{"<line x2='1024.00001'/>", "<line y1='-1024.00001'/>", "<line x2='1024.00001' transform='scale(0)'/>", "<line x2='1' transform='scale(1024.00001)'/>", "<line transform='translate(0 -1024.00001)'/>", all("") + "<line x2='1025'/>"} {
		checkRenderCode(t, impl.RenderFar, clipped(far, ""), clipped(far, "opacity='0'"), clipped(far+"<line x1='x'/>", ""))
		checkRenderCode(t, impl.RenderValue, clipped("<line x1='x'/>"+far, ""))
	}
	checkRender(t, clipped("<path d='M-1024-1024H1024V1024H-1024Z'/>", ""), "RRRR", "RRRR", "RRRR", "RRRR")
	checkRender(t, clipped("<rect width='1' height='1' transform='scale(1024)'/>", ""), "RRRR", "RRRR", "RRRR", "RRRR")
	// The place of the element counts: just near, and too far by it.
	checkRenderCode(t, impl.RenderFar, svg4("<clipPath id='c'><line x2='1024'/></clipPath><g transform='translate(1)' clip-path='url(#c)'><rect/></g>"))
	checkRender(t, svg4("<clipPath id='c'><line x2='1024'/></clipPath><g clip-path='url(#c)'><g transform='translate(1)'><rect/></g></g>"), "....", "....", "....", "....")
	// A wrong place told by a product that goes too far.
	checkRenderCode(t, impl.RenderValue, svg4("<clipPath id='c'><rect transform='scale(300)'/></clipPath><g transform='scale(300)' clip-path='url(#c)'><g transform='scale(0)'><rect/></g></g>"))
	// The first clip on the way, and in it the first shape.
	two := "<clipPath id='v'><rect x='x'/></clipPath><clipPath id='f'><line x2='1025'/></clipPath>"
	checkRenderCode(t, impl.RenderValue, svg4(two+"<g clip-path='url(#v)'><rect clip-path='url(#f)'/></g>"))
	checkRenderCode(t, impl.RenderFar, svg4(two+"<g clip-path='url(#f)'><rect clip-path='url(#v)'/></g>"))
}

// stripes tells a run of two colors at both ends of x in 0..4.
func stripes(more string) string {
	return "<linearGradient id='a' x2='4' " + more + "><stop stop-color='black'/><stop offset='1' stop-color='white'/></linearGradient>"
}

func TestRenderRuns(t *testing.T) {
	gray := func(values ...int) []impl.Tint {
		var l []impl.Tint
		for _, x := range values {
			l = append(l, grayTint(x, 255))
		}
		return l
	}
	paint := all("fill='url(#a)'")
	// The middles of four pixels at an eighth, three of them, and so on.
	checkTints(t, svg("4", "1", stripes("")+paint), gray(31, 95, 159, 223)...)
	checkTints(t, svg("8", "1", stripes("")+paint), gray(31, 95, 159, 223, 255, 255, 255, 255)...)
	checkTints(t, svg("8", "1", stripes("spreadMethod='pad'")+paint), gray(31, 95, 159, 223, 255, 255, 255, 255)...)
	checkTints(t, svg("8", "1", stripes("spreadMethod='repeat'")+paint), gray(31, 95, 159, 223, 31, 95, 159, 223)...)
	checkTints(t, svg("8", "1", stripes("spreadMethod='reflect'")+paint), gray(31, 95, 159, 223, 223, 159, 95, 31)...)
	for spread, want := range map[string][]impl.Tint{"pad": gray(0, 0, 0, 0, 31, 95), "repeat": gray(31, 95, 159, 223, 31, 95), "reflect": gray(223, 159, 95, 31, 31, 95)} {
		text := "<linearGradient id='a' x1='4' x2='8' spreadMethod='" + spread + "'><stop stop-color='black'/><stop offset='1' stop-color='white'/></linearGradient>"
		checkTints(t, svg("6", "1", text+paint), want...)
	}
	// Down, aslant, and the other way.
	down := strings.Replace(stripes(""), "x2", "y2", 1)
	checkTints(t, svg("1", "4", down+paint), gray(31, 95, 159, 223)...)
	back := strings.Replace(stripes("x1='4'"), "x2='4'", "x2='0'", 1)
	checkTints(t, svg("4", "1", back+paint), gray(223, 159, 95, 31)...)
	checkTints(t, svg("2", "2", stripes("y2='4'")+paint), gray(31, 63, 63, 95)...)
	// A stroke by a run, and by another one than the fill.
	line := "<line x1='-9' x2='9' y1='.5' y2='.5' stroke='url(#a)'/>"
	checkTints(t, svg("4", "1", stripes("")+line), gray(31, 95, 159, 223)...)
	other := "<linearGradient id='b'><stop stop-color='red'/></linearGradient>"
	checkRender(t, svg("6", "6", stripes("")+other+box("1", "1", "4", "4", "fill='url(#b)' stroke='url(#a)' stroke-width='2'")), "??????", "??????", "??RR??", "??RR??", "??????", "??????")
	checkTints(t, svg("4", "1", stripes("")+other+"<g transform='scale(9)'>"+all("fill='url(#b)' stroke='url(#a)' stroke-width='0'")+"</g>"), tint(255, 0, 0, 255), tint(255, 0, 0, 255), tint(255, 0, 0, 255), tint(255, 0, 0, 255))
}

func TestRenderRunPlaces(t *testing.T) {
	ends := "<linearGradient id='a' x1='%' y1='%' x2='%' y2='%'><stop stop-color='red'/><stop offset='1' stop-color='lime'/></linearGradient>"
	paint := all("fill='url(#a)'")
	// Both points the same: the place is 0.
	for _, x := range []string{"0", "2", "-3", "1024"} {
		checkRender(t, svg("2", "1", strings.ReplaceAll(ends, "%", x)+paint), "RR")
	}
	// So near that they are the same fine place.
	checkRender(t, svg("2", "1", "<linearGradient id='a' x2='.03'><stop stop-color='red'/><stop offset='1' stop-color='lime'/></linearGradient>"+paint), "RR")
	checkRender(t, svg("2", "1", "<linearGradient id='a' x2='.04'><stop stop-color='red'/><stop offset='1' stop-color='lime'/></linearGradient>"+paint), "GG")
	// Moved as the shape is.
	two := "<linearGradient id='a' x1='1' x2='1.0625'><stop stop-color='red'/><stop offset='1' stop-color='lime'/></linearGradient>"
	checkRender(t, svg("4", "1", two+paint), "RGGG")
	checkRender(t, svg("4", "1", two+"<g transform='translate(2)'>"+paint+"</g>"), "RRRG")
	checkRender(t, svg("4", "1", two+"<g transform='scale(2)'>"+paint+"</g>"), "RRGG")
	checkRender(t, svg("4", "1", two+"<g transform='translate(4) scale(-1 1)'>"+all("x2='0' fill='url(#a)'")+"</g>"), "GGGR")
	checkRender(t, view("0 0 2 2", two+paint), "RRGG", "RRGG", "RRGG", "RRGG")
	// But not by its own transform or that of what is around it.
	moved := strings.Replace(two, "x1", "transform='translate(2)' gradientTransform='translate(2)' gradientUnits='objectBoundingBox' x1", 1)
	checkRender(t, svg("4", "1", "<g transform='translate(3)'>"+moved+"</g>"+paint), "RGGG")
	for _, x := range []string{"1024.00001", "-1024.00001", "2000", "16777216"} {
		for _, name := range []string{"x1", "y1", "x2", "y2"} {
			far := "<linearGradient id='a' " + name + "='" + x + "'><stop/></linearGradient>"
			checkRenderCode(t, impl.RenderFar, svg("1", "1", far+paint), svg("1", "1", far+"<line stroke='url(#a)'/>"), svg("1", "1", far+"<rect fill='url(#a)' opacity='0'/>"))
			checkRender(t, svg("1", "1", far+all("fill='red'")), "R")
		}
	}
	// Only where they are moved to counts.
	near := "<linearGradient id='a' x1='2048'><stop stop-color='red'/></linearGradient>"
	checkRender(t, svg("1", "1", near+"<rect width='9' height='9' fill='url(#a)' transform='scale(.5)'/>"), "R")
	checkRenderCode(t, impl.RenderFar, svg("1", "1", near+"<rect width='9' height='9' fill='url(#a)' transform='scale(.51)'/>"), svg("1", "1", strings.Replace(near, "2048", "1024", 1)+"<rect fill='url(#a)' transform='translate(.5)'/>"), svg("1", "1", strings.Replace(near, "2048", "512", 1)+"<g transform='scale(65536)'><rect fill='url(#a)'/></g>"))
	// A place just ahead of 0 is rounded down: it goes round to the end.
	ahead := "<linearGradient id='a' x1='.4375' y1='.5625' x2='19.1875' y2='19.375' spreadMethod='repeat'><stop stop-color='red'/><stop offset='.5' stop-color='red'/><stop offset='.5' stop-color='lime'/></linearGradient>"
	checkRender(t, svg("1", "1", ahead+paint), "G")
	checkRender(t, svg("1", "1", strings.Replace(ahead, "repeat", "pad", 1)+paint), "R")
	// A very short one goes round at each fine place, far behind its end, too.
	short := "<linearGradient id='a' x1='-1024' x2='-1023.9375' spreadMethod='repeat'><stop stop-color='red'/><stop offset='.5' stop-color='lime'/><stop offset='1' stop-color='red'/></linearGradient>"
	checkRender(t, svg("36", "1", short+box("0", "0", "36", "1", "fill='url(#a)'")), strings.Repeat("R", 36))
}

func TestRenderRunsOfNone(t *testing.T) {
	for _, run := range []string{"<linearGradient id='a'/>", "<linearGradient id='a'>" + strings.Repeat("<stop/>", 9) + "</linearGradient>", "<linearGradient id='a'><stop offset='x'/></linearGradient>", "<linearGradient id='a' x1='x'><stop/></linearGradient>", "<linearGradient id='a'><stop stop-color='none'/></linearGradient>", "<linearGradient id='a' href='#b'/><linearGradient id='b'><stop/></linearGradient>"} {
		checkRenderCode(t, impl.RenderValue, svg("1", "1", run+"<rect fill='url(#a)'/>"), svg("1", "1", run+"<rect stroke='url(#a)'/>"), svg("1", "1", run+"<g fill='url(#a)'><line/></g>"), svg("1", "1", run+all("fill='url(#a)' opacity='0'")), svg("1", "1", run+"<clipPath id='c'/>"+all("clip-path='url(#c)' fill='url(#a)'")), svg("1", "1", run+"<rect x='900' fill='red' stroke='url(#a)' stroke-width='0'/>"))
		checkRender(t, svg("1", "1", run+"<g fill='url(#a)' stroke='url(#a)'/>"+all("fill='red'")), "R")
	}
	// Where the id is none of a run there is no paint at all, and no stroke is looked at.
	for _, value := range []string{"url(#r)", "url(#none)", "url(#)"} {
		checkRender(t, svg("1", "1", all("fill='"+value+"' id='r'")), ".")
		checkRender(t, svg("1", "1", all("fill='red'")+"<line x2='1024' stroke-linecap='square' stroke='"+value+"' id='r'/>"), "R")
	}
}

// The part thins a run's tint, then the mask does: each time it is rounded.
func TestRenderRunParts(t *testing.T) {
	run := "<linearGradient id='a'><stop stop-color='#fb7105'/></linearGradient>"
	for _, part := range []string{"1", ".5", ".3", ".01", ".9", "0"} {
		for _, wide := range []string{"1", ".75", ".5", ".25"} {
			n, _ := impl.ReadPart(part)
			cover := map[string]int{"1": 16, ".75": 12, ".5": 8, ".25": 4}[wide]
			want := thinAsTold(thinAsTold(tint(251, 113, 5, 255), n), 16*cover)
			checkTints(t, svg("1", "1", run+"<rect width='"+wide+"' height='1' fill='url(#a)' fill-opacity='"+part+"'/>"), want)
			checkTints(t, svg("1", "1", run+"<rect width='"+wide+"' height='1' fill='url(#a)' opacity='"+part+"'/>"), want)
			color := thinAsTold(tintAsTold(impl.Color{R: 251, G: 113, B: 5}, n), 16*cover)
			checkTints(t, svg("1", "1", "<rect width='"+wide+"' height='1' fill='#fb7105' fill-opacity='"+part+"'/>"), color)
		}
	}
}
