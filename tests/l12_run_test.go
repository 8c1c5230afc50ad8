package tests

import (
	"math"
	"slices"
	"testing"

	"loop.example/g00137/impl"
)

func checkRun(t *testing.T, l []impl.Stop, place, spread int, want impl.Tint) {
	t.Helper()
	got, ok := impl.RunAt(l, place, spread)
	if got != want || !ok {
		t.Errorf("RunAt %v %d %d: %v, %v; not %v", l, place, spread, got, ok, want)
	}
	if !isTint(got) || !impl.GoodTint(got) {
		t.Errorf("RunAt %v %d %d: %v is no tint", l, place, spread, got)
	}
}

func checkNoRun(t *testing.T, l []impl.Stop, place, spread int) {
	t.Helper()
	if got, ok := impl.RunAt(l, place, spread); got != (impl.Tint{}) || ok {
		t.Errorf("RunAt %v %d %d: %v, %v", l, place, spread, got, ok)
	}
}

// checkSpread asks which place becomes of another one, by a run that is red there alone.
func checkSpread(t *testing.T, place, spread, want int) {
	t.Helper()
	red, black := tint(255, 0, 0, 255), tint(0, 0, 0, 255)
	var l []impl.Stop
	if want > 0 {
		l = append(l, stopAt(want-1, black))
	}
	l = append(l, stopAt(want, red))
	if want < one {
		l = append(l, stopAt(want+1, black))
	}
	checkRun(t, l, place, spread, red)
}

func TestRunAtSpreads(t *testing.T) {
	for _, c := range [][4]int{
		// A place, and what it becomes: padded, repeated, mirrored.
		{0, 0, 0, 0}, {1, 1, 1, 1}, {one / 3, one / 3, one / 3, one / 3}, {one - 1, one - 1, one - 1, one - 1},
		{one, one, 0, one}, {one + 1, one, 1, one - 1}, {3 * one / 2, one, one / 2, one / 2},
		{2*one - 1, one, one - 1, 1}, {2 * one, one, 0, 0}, {2*one + 1, one, 1, 1}, {3*one - 1, one, one - 1, one - 1}, {3 * one, one, 0, one}, {3*one + 1, one, 1, one - 1},
		{-1, 0, one - 1, 1}, {-5, 0, one - 5, 5}, {-one + 1, 0, 1, one - 1}, {-one, 0, 0, one}, {-one - 1, 0, one - 1, one - 1},
		{-2*one + 1, 0, 1, 1}, {-2 * one, 0, 0, 0}, {-2*one - 1, 0, one - 1, 1}, {-3 * one, 0, 0, one},
		{impl.MaxFixed, one, 0, 0}, {impl.MaxFixed - 1, one, one - 1, 1}, {impl.MaxFixed - one, one, 0, one},
		{-impl.MaxFixed, 0, 0, 0}, {-impl.MaxFixed + 1, 0, 1, 1}, {-impl.MaxFixed + one, 0, 0, one},
	} {
		for k, spread := range spreads {
			checkSpread(t, c[0], spread, c[k+1])
		}
	}
	for place := -3 * one; place <= 3*one; place += 97 {
		checkSpread(t, place, impl.SpreadPad, max(0, min(one, place)))
		checkSpread(t, place, impl.SpreadRepeat, place&(one-1))
		checkSpread(t, place, impl.SpreadMirror, mirroredAsTold(place))
	}
}

// mirroredAsTold goes from end to end, step by step of one whole.
func mirroredAsTold(place int) int {
	for place < 0 || place > one {
		if place < 0 {
			place = -place
		} else {
			place = 2*one - place
		}
	}
	return place
}

func TestRunAtEachPlace(t *testing.T) {
	l := []impl.Stop{stopAt(0, tint(0, 255, 10, 255)), stopAt(one, tint(255, 0, 10, 255))}
	for place := 0; place <= one; place++ {
		// What falls is rounded down, too: what the one loses the other has not won yet.
		up := 255 * place / one
		down := 255 - up
		if 255*place%one > 0 {
			down--
		}
		checkRun(t, l, place, impl.SpreadPad, tint(up, down, 10, 255))
		if place > 0 && place < one {
			checkRun(t, l, place-2*one, impl.SpreadRepeat, tint(up, down, 10, 255))
			checkRun(t, l, 2*one-place, impl.SpreadMirror, tint(up, down, 10, 255))
		}
	}
	for _, c := range [][2]int{{0, 0}, {1, 0}, {257, 0}, {258, 1}, {one / 2, 127}, {one/2 + 128, 127}, {one/2 + 129, 128}, {one - 1, 254}, {one, 255}} {
		if got, ok := impl.RunAt(l, c[0], impl.SpreadPad); !ok || got.R != c[1] {
			t.Error(c, got, ok)
		}
	}
}

func TestRunAtBetweenTwoStops(t *testing.T) {
	a, b := tint(10, 0, 200, 200), tint(100, 100, 0, 100)
	l := []impl.Stop{stopAt(1000, a), stopAt(1100, b)}
	for _, spread := range spreads {
		checkRun(t, l, 0, spread, a)
		checkRun(t, l, 999, spread, a)
		checkRun(t, l, 1000, spread, a)
		checkRun(t, l, 1001, spread, tint(10, 1, 198, 199))
		checkRun(t, l, 1010, spread, tint(19, 10, 180, 190))
		checkRun(t, l, 1050, spread, tint(55, 50, 100, 150))
		checkRun(t, l, 1099, spread, tint(99, 99, 2, 101))
		checkRun(t, l, 1100, spread, b)
		checkRun(t, l, 1101, spread, b)
		checkRun(t, l, one-1, spread, b)
	}
	checkRun(t, l, -1, impl.SpreadPad, a)
	checkRun(t, l, one+5, impl.SpreadPad, b)
	checkRun(t, l, one, impl.SpreadPad, b)
	checkRun(t, l, one, impl.SpreadRepeat, a)
	checkRun(t, l, one, impl.SpreadMirror, b)
	checkRun(t, l, -1, impl.SpreadRepeat, b)
	checkRun(t, l, -1, impl.SpreadMirror, a)
	checkRun(t, l, 2*one-1050, impl.SpreadMirror, tint(55, 50, 100, 150))
	checkRun(t, l, 5*one+1050, impl.SpreadRepeat, tint(55, 50, 100, 150))
}

func TestRunAtOneStopAlone(t *testing.T) {
	for _, place := range []int{0, 1, one / 2, one - 1, one} {
		l := []impl.Stop{stopAt(place, tint(1, 2, 3, 4))}
		for _, there := range []int{-impl.MaxFixed, -one, -1, 0, 1, place - 1, place, place + 1, one, 2 * one, impl.MaxFixed} {
			for _, spread := range spreads {
				checkRun(t, l, there, spread, tint(1, 2, 3, 4))
			}
		}
	}
}

func TestRunAtStopsOfOnePlace(t *testing.T) {
	// At the first place the first one counts, behind it the last one that stands there.
	l := stopsAt(100, 100, 100, 200, 200, 200, 300, 300)
	for _, spread := range spreads {
		checkRun(t, l, 99, spread, l[0].Tint)
		checkRun(t, l, 100, spread, l[0].Tint)
		checkRun(t, l, 101, spread, tint(20, 97, 2, 202))
		checkRun(t, l, 150, spread, tint(25, 97, 2, 202))
		checkRun(t, l, 199, spread, tint(29, 97, 2, 202))
		checkRun(t, l, 200, spread, l[5].Tint)
		checkRun(t, l, 250, spread, tint(55, 94, 5, 205))
		checkRun(t, l, 299, spread, tint(59, 94, 5, 205))
		checkRun(t, l, 300, spread, l[7].Tint)
		checkRun(t, l, 301, spread, l[7].Tint)
	}
	for _, place := range []int{1, one / 2, one - 1} {
		for count := 1; count <= 8; count++ {
			all := stopsAt(slices.Repeat([]int{place}, count)...)
			for _, spread := range spreads {
				checkRun(t, all, place-1, spread, all[0].Tint)
				checkRun(t, all, place, spread, all[0].Tint)
			}
			checkRun(t, all, place+1, impl.SpreadPad, all[count-1].Tint)
		}
	}
	ends := stopsAt(0, 0, one, one)
	for _, spread := range spreads {
		checkRun(t, ends, 0, spread, ends[0].Tint)
		checkRun(t, ends, 1, spread, tint(10, 98, 1, 201))
	}
	checkRun(t, ends, one, impl.SpreadPad, ends[3].Tint)
	checkRun(t, ends, one, impl.SpreadRepeat, ends[0].Tint)
	checkRun(t, ends, one, impl.SpreadMirror, ends[3].Tint)
}

func TestRunAtWrongArguments(t *testing.T) {
	l := stopsAt(0, 5, one)
	for _, place := range noFixed {
		for _, spread := range append([]int{0, 4}, spreads...) {
			checkNoRun(t, l, place, spread)
			checkNoRun(t, nil, place, spread)
		}
	}
	for _, spread := range []int{0, 4, -1, 5, 1 << 32, 1<<32 + 1, math.MaxInt, math.MinInt, math.MinInt + 1} {
		for _, place := range []int{0, 5, one, -impl.MaxFixed, impl.MaxFixed, math.MinInt, math.MaxInt} {
			checkNoRun(t, l, place, spread)
			checkNoRun(t, l[:1], place, spread)
		}
	}
}

// runAsTold looks for the stops from the last one on.
func runAsTold(l []impl.Stop, place, spread int) impl.Tint {
	switch spread {
	case impl.SpreadPad:
		place = max(0, min(one, place))
	case impl.SpreadRepeat:
		place &= one - 1
	case impl.SpreadMirror:
		place &= 2*one - 1
		place = mirroredAsTold(place)
	}
	last := len(l) - 1
	if place <= l[0].At {
		return l[0].Tint
	}
	if place >= l[last].At {
		return l[last].Tint
	}
	k := last
	for l[k].At > place {
		k--
	}
	n, next := fourOf(l[k].Tint), fourOf(l[k+1].Tint)
	for i := range n {
		way := float64((next[i]-n[i])*(place-l[k].At)) / float64(l[k+1].At-l[k].At)
		n[i] += int(math.Floor(way))
	}
	return tintFrom(n)
}

func someStops(d *dice) []impl.Stop {
	var places []int
	size := oneOf(d, 2, 5, 300, one+1)
	for range 1 + d.below(8) {
		places = append(places, oneOf(d, d.below(size), d.below(size), one-d.below(size), d.below(one+1)))
	}
	slices.Sort(places)
	var l []impl.Stop
	for _, place := range places {
		l = append(l, stopAt(place, someTint(d)))
	}
	return l
}

func TestRunAtAnyStops(t *testing.T) {
	d := dice(123)
	inside := 0
	for range 20000 {
		l := someStops(&d)
		checkStops(t, l, true)
		first, last := l[0].At, l[len(l)-1].At
		for range 8 {
			place := oneOf(&d, d.below(one+1), l[d.below(len(l))].At+d.below(3)-1, first+d.below(last-first+1))
			if first < place && place < last {
				inside++
			}
			place += oneOf(&d, 0, 0, one, -one, 2*one, -2*one, 3*one, (d.below(1<<24)-1<<23)*one)
			if max(place, -place) > impl.MaxFixed {
				continue
			}
			for _, spread := range spreads {
				checkRun(t, l, place, spread, runAsTold(l, place, spread))
			}
		}
	}
	if inside < 40000 {
		t.Error("only", inside, "between stops")
	}
}
