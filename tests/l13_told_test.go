package tests

import (
	"math"
	"slices"
	"strings"

	"loop.example/g00137/impl"
)

// A renderTold is a second telling of chapter 13: it leans on the functions of the chapters ahead, and tells its faults by panic.
type renderTold struct {
	l     []impl.Node
	sheet []impl.Rule
	first [6]int
	paper impl.Sheet
}

func renderAsTold(text string) (s impl.Sheet, code int) {
	defer func() {
		if fault, told := recover().(int); told {
			s, code = impl.Sheet{}, fault
		}
	}()
	doc := impl.ReadMarks(text)
	must(doc.Code == 0, impl.RenderMarks)
	r := renderTold{l: doc.Nodes, sheet: impl.SheetIn(doc.Nodes), first: sixOf(same)}
	must(r.l[0].Name == "svg", impl.RenderRoot)
	wide, high := r.side("width"), r.side("height")
	if s, there := impl.AttrOf(r.l[0], "viewBox"); there {
		x, y, vw, vh, ok := impl.ReadView(s)
		must(ok, impl.RenderView)
		view, ok := viewAsTold([6]int{wide, high, x, y, vw, vh})
		must(ok, impl.RenderView)
		r.first = sixOf(view)
	}
	shapes, treeCode := impl.ShapesIn(r.l, r.sheet)
	must(treeCode != impl.TreeCycle, impl.RenderCycle)
	must(treeCode != impl.TreeMany, impl.RenderMany)
	r.paper = plainSheet(wide, high, impl.Tint{})
	for _, shape := range shapes {
		r.draw(shape.Path)
	}
	return r.paper, impl.RenderOk
}

func must(ok bool, fault int) {
	if !ok {
		panic(fault)
	}
}

func (r *renderTold) side(name string) int {
	s, there := impl.AttrOf(r.l[0], name)
	n, ok := lengthAsTold(s)
	must(there && ok && len(s) <= impl.MaxValue, impl.RenderSize)
	side := int(math.Floor(float64(n)/one + 0.5))
	must(side >= 1 && side <= 36, impl.RenderSize)
	return side
}

func (r *renderTold) draw(path []int) {
	value := func(name string) string { return valueAsTold(r.l, r.sheet, path, name) }
	if value("visibility") != "visible" {
		return
	}
	place, ok := placesAsTold(r.l, path, r.first)
	must(ok, impl.RenderValue)
	lines, ok := impl.ShapeLines(r.l[path[len(path)-1]])
	must(ok, impl.RenderValue)
	all := 256
	for k := range path {
		all = halfUp(float64(all*readPart(valueAsTold(r.l, r.sheet, path[:k+1], "opacity"))) / 256)
	}
	var paints [2]impl.Paint
	var parts [2]int
	for k, name := range []string{"fill", "stroke"} {
		paints[k], ok = paintValueAsTold(r.l, value(name))
		must(ok, impl.RenderValue)
		parts[k] = halfUp(float64(all*readPart(value(name+"-opacity"))) / 256)
	}
	must(slices.Contains([]string{"evenodd", "nonzero"}, value("fill-rule")), impl.RenderValue)
	pen := penAsTold(value)
	moved := movedNear(place, lines, true)
	var band []impl.Line
	if paints[1].Kind != 0 {
		stroke, ok := impl.StrokeLines(lines, pen)
		must(ok, impl.RenderFar)
		band = movedNear(place, stroke, false)
	}
	clips := r.clips(path)
	r.paint(paints[0], parts[0], place, moved, value("fill-rule") == "evenodd", clips)
	r.paint(paints[1], parts[1], place, band, false, clips)
}

func readPart(s string) int {
	part, ok := impl.ReadPart(s)
	must(ok, impl.RenderValue)
	return part
}

func penAsTold(value func(string) string) impl.Pen {
	width, ok := lengthAsTold(value("stroke-width"))
	must(ok && len(value("stroke-width")) <= 600 && width >= 0 && width <= thickEdge, impl.RenderValue)
	join := slices.Index([]string{"miter", "round", "bevel"}, value("stroke-linejoin"))
	end := slices.Index([]string{"butt", "round", "square"}, value("stroke-linecap"))
	must(join >= 0 && end >= 0, impl.RenderValue)
	var dash []int
	if told := value("stroke-dasharray"); told != "none" {
		dash, ok = numbersAsTold(told)
		must(ok && len(told) <= 600 && areDash(dash, 0), impl.RenderValue)
	}
	return penOf(width, join+1, end+1, dash...)
}

func movedNear(place [6]int, lines []impl.Line, both bool) []impl.Line {
	moved, ok := movedAsTold(place, lines)
	for _, l := range moved {
		for _, p := range l.Points {
			ok = ok && isNear(p)
		}
	}
	for _, l := range lines {
		for _, p := range l.Points {
			ok = ok && (isNear(p) || !both)
		}
	}
	must(ok, impl.RenderFar)
	return moved
}

func (r *renderTold) clips(path []int) []impl.Mask {
	var out []impl.Mask
	for deep, k := range path {
		s, _ := ownAsTold(r.l, r.sheet, k, "clip-path")
		id := strings.TrimSuffix(strings.TrimPrefix(s, "url(#"), ")")
		clip := firstWith(r.l, id)
		if s != "url(#"+id+")" || clip < 0 || r.l[clip].Name != "clipPath" {
			continue
		}
		var all []impl.Line
		for i, n := range r.l {
			if n.Up != clip || !slices.Contains(strings.Fields(shapeNames), n.Name) {
				continue
			}
			// The shape stands in the place of the way as if it were the next one on it.
			place, ok := placesAsTold(r.l, append(slices.Clone(path[:deep+1]), i), r.first)
			must(ok, impl.RenderValue)
			lines, ok := impl.ShapeLines(n)
			must(ok, impl.RenderValue)
			all = append(all, movedNear(place, lines, true)...)
		}
		out = append(out, r.cover(all, false))
	}
	return out
}

func (r *renderTold) cover(lines []impl.Line, even bool) impl.Mask {
	m, ok := impl.CoverOf(lines, r.paper.Wide, r.paper.High, even)
	must(ok, 99)
	return m
}

func (r *renderTold) paint(p impl.Paint, part int, place [6]int, lines []impl.Line, even bool, clips []impl.Mask) {
	if p.Kind == 0 {
		return
	}
	m := r.cover(lines, even)
	if len(clips) > 0 {
		met := clips[0]
		for _, c := range clips[1:] {
			met, _ = impl.MeetMasks(met, c)
		}
		m, _ = impl.MeetMasks(m, met)
	}
	if p.Kind == 1 {
		r.paper, _ = impl.PaintMask(r.paper, m, tintAsTold(p.Color, part))
		return
	}
	run, ok := runsAsTold(r.l, r.sheet, p.Node)
	must(ok, impl.RenderValue)
	ends := movedNear(place, []impl.Line{{Points: run.points}}, false)[0].Points
	px, py, _ := impl.FineOf(ends[0])
	qx, qy, _ := impl.FineOf(ends[1])
	for k := range m.Cover {
		share := shareAsTold(16*(k%m.Wide)+8-px, 16*(k/m.Wide)+8-py, qx-px, qy-py)
		single := maskOf(m.Wide, m.High, make([]int, len(m.Cover))...)
		single.Cover[k] = m.Cover[k]
		if single.Cover[k] > 0 {
			r.paper, _ = impl.PaintMask(r.paper, single, thinAsTold(runAsTold(run.stops, share, run.spread), part))
		}
	}
}

func shareAsTold(mx, my, dx, dy int) int {
	n := dx*dx + dy*dy
	if n == 0 {
		return 0
	}
	share := downAsTold(times(mx*dx+my*dy, one), n)
	return max(-impl.MaxFixed, min(impl.MaxFixed, share))
}
