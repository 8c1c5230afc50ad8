package tests

import (
	"slices"
	"strconv"
	"strings"
	"testing"

	"loop.example/g00137/impl"
)

func move(x, y int) impl.Step { return impl.Step{Kind: impl.StepMove, N: []int{x * one, y * one}} }

func lineUpTo(x, y int) impl.Step {
	return impl.Step{Kind: impl.StepLine, N: []int{x * one, y * one}}
}

func curve(n ...int) impl.Step {
	step := impl.Step{Kind: impl.StepCurve}
	for _, x := range n {
		step.N = append(step.N, x*one)
	}
	return step
}

func closed() impl.Step { return impl.Step{Kind: impl.StepClose} }

func sameSteps(a, b []impl.Step) bool {
	return slices.EqualFunc(a, b, func(x, y impl.Step) bool { return x.Kind == y.Kind && slices.Equal(x.N, y.N) })
}

func checkPath(t *testing.T, s string, want ...impl.Step) {
	t.Helper()
	if got, ok := impl.ReadPath(s); !sameSteps(got, want) || !ok {
		t.Errorf("%q: ReadPath %v, %v; not %v", s, got, ok, want)
	}
}

func checkNoPath(t *testing.T, texts ...string) {
	t.Helper()
	for _, s := range texts {
		if got, ok := impl.ReadPath(s); len(got) != 0 || ok {
			t.Errorf("%q: ReadPath %v, %v", s, got, ok)
		}
	}
}

func TestReadPathOfNothing(t *testing.T) {
	for _, s := range []string{"", " ", "\t", "\n", "\r", "\t\n\r \r\n", strings.Repeat(" ", impl.MaxValue)} {
		checkPath(t, s)
	}
	checkNoPath(t, strings.Repeat(" ", impl.MaxValue+1), ",", " , ", "\v", "\x00", "\u00a0")
}

func TestReadPathOfEachLetter(t *testing.T) {
	checkPath(t, "M1 2", move(1, 2))
	checkPath(t, "m1 2", move(1, 2))
	checkPath(t, "M1 2M3 4", move(1, 2), move(3, 4))
	checkPath(t, "M1 2m3 4", move(1, 2), move(4, 6))
	checkPath(t, "m1 2m3 4", move(1, 2), move(4, 6))
	checkPath(t, "M1 2L3 5", move(1, 2), lineUpTo(3, 5))
	checkPath(t, "M1 2l3 5", move(1, 2), lineUpTo(4, 7))
	checkPath(t, "M1 2L3 5 6-7", move(1, 2), lineUpTo(3, 5), lineUpTo(6, -7))
	checkPath(t, "M1 2l3 5 6-7", move(1, 2), lineUpTo(4, 7), lineUpTo(10, 0))
	checkPath(t, "M1 2H5", move(1, 2), lineUpTo(5, 2))
	checkPath(t, "M1 2h5", move(1, 2), lineUpTo(6, 2))
	checkPath(t, "M1 2H5 6-7", move(1, 2), lineUpTo(5, 2), lineUpTo(6, 2), lineUpTo(-7, 2))
	checkPath(t, "M1 2h5 6-7", move(1, 2), lineUpTo(6, 2), lineUpTo(12, 2), lineUpTo(5, 2))
	checkPath(t, "M1 2V5", move(1, 2), lineUpTo(1, 5))
	checkPath(t, "M1 2v5", move(1, 2), lineUpTo(1, 7))
	checkPath(t, "M1 2V5 6-7", move(1, 2), lineUpTo(1, 5), lineUpTo(1, 6), lineUpTo(1, -7))
	checkPath(t, "M1 2v5 6-7", move(1, 2), lineUpTo(1, 7), lineUpTo(1, 13), lineUpTo(1, 6))
	checkPath(t, "M1 2C3 4 5 6 7 8", move(1, 2), curve(3, 4, 5, 6, 7, 8))
	checkPath(t, "M1 2c3 4 5 6 7 8", move(1, 2), curve(4, 6, 6, 8, 8, 10))
	checkPath(t, "M1 2C3 4 5 6 7 8 9 10 11 12 13 14", move(1, 2), curve(3, 4, 5, 6, 7, 8), curve(9, 10, 11, 12, 13, 14))
	checkPath(t, "M1 2c3 4 5 6 7 8 9 10 11 12 13 14", move(1, 2), curve(4, 6, 6, 8, 8, 10), curve(17, 20, 19, 22, 21, 24))
	checkPath(t, "M1 2Q4 5 7 14", move(1, 2), curve(3, 4, 5, 8, 7, 14))
	checkPath(t, "M1 2q3 3 6 12", move(1, 2), curve(3, 4, 5, 8, 7, 14))
	checkPath(t, "M0 0Q3 6 9 3 12-3 0 0", move(0, 0), curve(2, 4, 5, 5, 9, 3), curve(11, -1, 8, -2, 0, 0))
	checkPath(t, "M0 0q3 6 9 3 3-6-9-3", move(0, 0), curve(2, 4, 5, 5, 9, 3), curve(11, -1, 8, -2, 0, 0))
	checkPath(t, "M1 2Z", move(1, 2), closed())
	checkPath(t, "M1 2z", move(1, 2), closed())
}

func TestReadPathBehindMoves(t *testing.T) {
	checkPath(t, "M1 2 3 4 5 6", move(1, 2), lineUpTo(3, 4), lineUpTo(5, 6))
	checkPath(t, "m1 2 3 4 5 6", move(1, 2), lineUpTo(4, 6), lineUpTo(9, 12))
	checkPath(t, "M1 1M1 2 3 4", move(1, 1), move(1, 2), lineUpTo(3, 4))
	checkPath(t, "M1 1m1 2 3 4", move(1, 1), move(2, 3), lineUpTo(5, 7))
	checkPath(t, "M1 2 3 4z l1 1", move(1, 2), lineUpTo(3, 4), closed(), lineUpTo(2, 3))
	checkPath(t, "m1 1 2 0v3z", move(1, 1), lineUpTo(3, 1), lineUpTo(3, 4), closed())
}

func TestReadPathBehindClose(t *testing.T) {
	for letter, want := range map[string]impl.Step{
		"l1 1": lineUpTo(6, 7), "h1": lineUpTo(6, 6), "v1": lineUpTo(5, 7), "m1 1": move(6, 7), "c1 1 2 2 3 3": curve(6, 7, 7, 8, 8, 9), "q3 3 6 6": curve(7, 8, 9, 10, 11, 12),
		"L1 1": lineUpTo(1, 1), "H1": lineUpTo(1, 6), "V1": lineUpTo(5, 1), "M1 1": move(1, 1), "C1 1 2 2 3 3": curve(1, 1, 2, 2, 3, 3), "Q2 3 8 9": curve(3, 4, 4, 5, 8, 9),
		"z": closed(), "Z": closed(),
	} {
		for _, close := range []string{"Z", "z", " Z ", "\nz\t", "Z,", ",z,"} {
			checkPath(t, "M1 1 M5 6 L10 20 30 40"+close+letter, move(1, 1), move(5, 6), lineUpTo(10, 20), lineUpTo(30, 40), closed(), want)
			checkPath(t, "m1 1m4 5l5 14c0 0 0 0 9 9"+close+letter, move(1, 1), move(5, 6), lineUpTo(10, 20), curve(10, 20, 10, 20, 19, 29), closed(), want)
			checkPath(t, "m1 1m4 5"+close+close+letter, move(1, 1), move(5, 6), closed(), closed(), want)
		}
		checkNoPath(t, "M1 1Z1"+letter, "M1 1Z 1 1 "+letter, "M1 1z-1"+letter)
	}
	checkPath(t, "M1 2l5 5zm1 1l1 1zl1 0", move(1, 2), lineUpTo(6, 7), closed(), move(2, 3), lineUpTo(3, 4), closed(), lineUpTo(3, 3))
	checkNoPath(t, "M1 2Z1", "M1 2Z1 2", "M1 2z 1,2", "M1 2Z.", "M1 2Z-", "M1 2Z1 2Z")
}

func TestReadPathBendsAreDividedDown(t *testing.T) {
	// All four sums of a bend are held against whole numbers, on both sides of 0 and with each thing left.
	for _, p := range []int{-7, -3, -2, -1, 0, 1, 2, 3, 8, impl.MaxFixed, -impl.MaxFixed, 1 - impl.MaxFixed} {
		for _, c := range []int{-5, -4, -1, 0, 1, 4, 5, impl.MaxFixed, -impl.MaxFixed} {
			for _, e := range []int{-2, -1, 0, 1, 2, impl.MaxFixed - 1, -impl.MaxFixed} {
				s := "M" + fixedText(t, p) + " " + fixedText(t, e) + "Q" + fixedText(t, c) + " " + fixedText(t, p) + " " + fixedText(t, e) + " " + fixedText(t, c)
				third := func(end, control int) int { return downAsTold(whole(end+2*control), 3) }
				checkPath(t, s, impl.Step{Kind: impl.StepMove, N: []int{p, e}},
					impl.Step{Kind: impl.StepCurve, N: []int{third(p, c), third(e, p), third(e, c), third(c, p), e, c}})
			}
		}
	}
	checkPath(t, "M0 0Q.5 -.5 1 -1", move(0, 0), impl.Step{Kind: impl.StepCurve, N: []int{21845, -21846, 43690, -43691, one, -one}})
	checkPath(t, "M1 1q.5 -.5 0 0", move(1, 1), impl.Step{Kind: impl.StepCurve, N: []int{87381, 43690, 87381, 43690, one, one}})
}

func TestReadPathBeginsWithAMove(t *testing.T) {
	for _, s := range []string{"L1 1", "l1 1", "H1", "h1", "V1", "v1", "C1 1 1 1 1 1", "c1 1 1 1 1 1", "Q1 1 1 1", "q1 1 1 1", "Z", "z"} {
		checkNoPath(t, s, " "+s, s+"M1 1", s+" m1 1", ","+s)
		checkPath(t, "M0 0"+s+"M1 1", append(stepsFor(t, "M0 0"+s), move(1, 1))...)
	}
	checkNoPath(t, "1 1", "1 1M1 1", "1M1 1", ",M1 1", " , M1 1", "-M1 1", ".M1 1", "A1 1", "S1 1 1 1", "T1 1", "N1 1", "\x00M1 1")
}

func stepsFor(t *testing.T, s string) []impl.Step {
	t.Helper()
	l, ok := impl.ReadPath(s)
	if !ok {
		t.Fatalf("%q is no path", s)
	}
	return l
}

func TestReadPathHowManyNumbers(t *testing.T) {
	for letter, count := range map[string]int{"M": 2, "L": 2, "H": 1, "V": 1, "C": 6, "Q": 4, "Z": 0} {
		for _, form := range []string{letter, strings.ToLower(letter)} {
			for n := range 31 {
				s := "M0 0" + form + strings.TrimRight(strings.Repeat("1 ", n), " ")
				steps, ok := impl.ReadPath(s)
				if count == 0 && n == 0 {
					checkPath(t, s, move(0, 0), closed())
				} else if count == 0 || n == 0 || n%count != 0 {
					checkNoPath(t, s, s+" ", s+"M1 1", s+"Z", s+",")
				} else if !ok || len(steps) != 1+n/count {
					t.Errorf("%q: %v, %v", s, steps, ok)
				}
			}
		}
	}
}

func TestReadPathOtherLetters(t *testing.T) {
	for c := range 256 {
		known := strings.IndexByte("MmLlHhVvCcQqZz", byte(c)) >= 0
		for n := range 8 {
			s := "M0 0" + string([]byte{byte(c)}) + strings.TrimRight(strings.Repeat(" 2", n), " ")
			if known {
				continue
			}
			if c >= '0' && c <= '9' || c == '.' || c == '-' || c == '+' || c == ' ' || c == '\t' || c == '\n' || c == '\r' || c == ',' {
				continue
			}
			checkNoPath(t, s)
		}
	}
	checkNoPath(t, "M1 1e3 1", "M1e3 1", "M1 1S1 1 1 1", "M1 1A1 1 0 0 0 1 1", "M1 1T1 1", "M1 1;L1 1", "M(1 1)", "M1 1 Lx 1", "MM1 1", "M1 1LL1 1", "M1 1L", "M1 1L ", "M1 1 L,", "M", "m", "M ",
		"M,", "M1", "M1,", "M1 1 1", "M1 1,1", "M1 1\vL1 1", "M\xff1 1", "M1 1\xff", "Mé", "M1 1\x00")
}

func TestReadPathBlanksAndCommas(t *testing.T) {
	want := []impl.Step{move(1, -2), lineUpTo(3, 4), lineUpTo(5, 6), closed()}
	for _, b := range []string{"", " ", "\t", "\n", "\r", ",", " ,", ", ", " , ", "\n,\t\r", ",,", " , , "} {
		for _, form := range []string{"M*1-2L3 4 5 6Z", "M1-2*L3 4 5 6Z", "M1-2L*3 4 5 6Z", "M1-2L3 4 5 6*Z", "M1-2L3 4 5 6Z*", "M*1-2*L*3 4 5 6*Z*", "M1-2*3 4 5 6Z", "M1*-2L3 4 5 6Z"} {
			s := ofForm(form, b)
			inside := strings.Contains(form, "2*3") || strings.Contains(form, "1*-")
			if inside && (b == ",," || b == " , , ") || b == "" && strings.Contains(form, "2*3") {
				checkNoPath(t, s)
			} else {
				checkPath(t, s, want...)
			}
		}
		if strings.Contains(b, ",") {
			checkNoPath(t, b+"M1 1", b)
		} else {
			checkPath(t, b+"M1 1"+b, move(1, 1))
		}
	}
	checkPath(t, "M1.5-.5L1 1", impl.Step{Kind: impl.StepMove, N: []int{one + one/2, -one / 2}}, lineUpTo(1, 1))
	checkNoPath(t, "M1.2.3", "M1 2 3.4.5 6 7", "M1. 2", "M1 2.", "M1 2.L3 4", "M1--2", "M1 -", "M- 1", "M1,,2", "M1 ,, 2", "M1 2,,3 4", "M1 2;3 4", "M1 1.L1 1", "M123456789 1", "M1.1234567 1")
}

func TestReadPathPlacesThatAreNotFixed(t *testing.T) {
	most := impl.MaxFixed
	checkPath(t, "M16777216-16777216", impl.Step{Kind: impl.StepMove, N: []int{most, -most}})
	checkPath(t, "m16777215 1l1-1", impl.Step{Kind: impl.StepMove, N: []int{most - one, one}}, impl.Step{Kind: impl.StepLine, N: []int{most, 0}})
	checkPath(t, "M16777216 0l-1 0 1 0", impl.Step{Kind: impl.StepMove, N: []int{most, 0}}, impl.Step{Kind: impl.StepLine, N: []int{most - one, 0}}, impl.Step{Kind: impl.StepLine, N: []int{most, 0}})
	for _, s := range []string{"m1 0", "l1 0", "h1", "c1 0 0 0 0 0", "c0 0 1 0 0 0", "c0 0 0 0 1 0", "q3 0 0 0", "q0 0 3 0", "h.000016", "l-1 0 2 0", "h-16777216 16777216 1", "m-1 0 1 0 1 0"} {
		mirrored := strings.NewReplacer("h-", "h", "h", "h-", "m-", "m", "m", "m-", "l-", "l", "l", "l-", "c", "c-", "q", "q-", " 1", " -1", " 2", " -2", " 3", " -3").Replace(s)
		checkNoPath(t, "M16777216 0"+s, "M16777216 5"+s+"L0 0", "M-16777216 0"+mirrored, "M16777216 0z"+s)
	}
	for _, s := range []string{"m0 1", "l0 1", "v1", "c0 1 0 0 0 0", "c0 0 0 1 0 0", "c0 0 0 0 0 1", "q0 3 0 0", "q0 0 0 3", "v.000016"} {
		checkNoPath(t, "M0 16777216"+s, "M0-16777216"+strings.NewReplacer("0 1", "0-1", "0 3", "0-3", "v", "v-").Replace(s))
	}
	checkNoPath(t, "M16777217 0", "M0 16777217", "M0 0L16777217 0", "M0 0H16777217", "M0 0V-16777217", "M0 0C0 0 0 0 0 16777217", "M0 0Q0 0 0 16777217", "M16777216.000016 0")
}

func TestReadPathHowManySteps(t *testing.T) {
	for _, form := range []struct {
		first, more string
		steps       int
	}{
		{"M0 0", "L1 1", 1}, {"M0 0", "h1", 1}, {"M0 0", "H1 2 ", 2}, {"M0 0", " 1 1", 1}, {"m0 0", ",1,1", 1}, {"M0 0h1", " 1", 1}, {"M0 0", "z", 1}, {"M0 0", "m1 1", 1}, {"M0 0q1 1 1 1", "-1-1-1-1", 1},
		{"M0 0V0", "m1 1z", 2},
	} {
		begun := len(stepsFor(t, form.first))
		for n := range 64 {
			s := form.first + strings.Repeat(form.more, n)
			want := begun + n*form.steps
			steps, ok := impl.ReadPath(s)
			if len(s) > impl.MaxValue {
				t.Fatal(s)
			}
			if want <= impl.MaxSteps && (!ok || len(steps) != want) {
				t.Errorf("%q: %d, %v", s, len(steps), ok)
			}
			if want > impl.MaxSteps {
				checkNoPath(t, s)
			}
		}
	}
}

func TestPathsOfTooLongTexts(t *testing.T) {
	for _, s := range padded("M1 2", impl.MaxValue) {
		checkPath(t, s, move(1, 2))
	}
	checkPath(t, "M1"+strings.Repeat(" ", impl.MaxValue-3)+"2", move(1, 2))
	checkPath(t, "M1 2"+strings.Repeat(",", impl.MaxValue-4), move(1, 2))
	checkNoPath(t, "M1"+strings.Repeat(" ", impl.MaxValue-2)+"2", "M1 2"+strings.Repeat(",", impl.MaxValue-3))
	for _, size := range []int{impl.MaxValue + 1, 5000} {
		checkNoPath(t, padded("M1 2", size)...)
		checkNoPath(t, padded("", size)...)
	}
}

// pathAsTold cuts at the letters and moves numbers by what they are: x, y, and which end a step.
func pathAsTold(s string) ([]impl.Step, bool) {
	forms := map[byte]string{'M': "xy", 'L': "xy", 'H': "x", 'V': "y", 'C': "xyxyxy", 'Q': "xyxy"}
	s = strings.Trim(s, "\t\n\r ")
	var steps []impl.Step
	var now, begun [2]int
	for s != "" {
		letter := s[0]
		great := strings.ToUpper(string(letter))[0]
		end := 1 + strings.IndexFunc(s[1:]+"Z", func(c rune) bool { return c >= 'a' && c <= 'z' || c >= 'A' && c <= 'Z' })
		told := strings.Trim(s[1:end], "\t\n\r ,")
		s = s[end:]
		if len(steps) == 0 && great != 'M' {
			return nil, false
		}
		if great == 'Z' && told == "" {
			steps, now = append(steps, closed()), begun
			continue
		}
		n, ok := numbersAsTold(told)
		form := forms[great]
		if !ok || form == "" || len(n)%len(form) != 0 {
			return nil, false
		}
		for k, row := range slices.Collect(slices.Chunk(n, len(form))) {
			ends := []int{}
			for j := range row {
				which := int(form[j] - 'x')
				if letter > 'Z' {
					row[j] += now[which]
				}
			}
			switch great {
			case 'H':
				ends = []int{row[0], now[1]}
			case 'V':
				ends = []int{now[0], row[0]}
			case 'Q':
				for j := range 4 {
					end := now[j%2]
					if j > 1 {
						end = row[j]
					}
					ends = append(ends, downAsTold(whole(end+2*row[j%2]), 3))
				}
				ends = append(ends, row[2], row[3])
			default:
				ends = slices.Clone(row)
			}
			kind := map[int]int{2: impl.StepLine, 6: impl.StepCurve}[len(ends)]
			now = [2]int(ends[len(ends)-2:])
			if great == 'M' && k == 0 {
				kind, begun = impl.StepMove, now
			}
			steps = append(steps, impl.Step{Kind: kind, N: ends})
		}
	}
	for _, step := range steps {
		if slices.ContainsFunc(step.N, func(x int) bool { return !impl.GoodFixed(x) }) {
			return nil, false
		}
	}
	return steps, len(steps) <= impl.MaxSteps
}

func somePath(d *dice) string {
	var b strings.Builder
	b.WriteString(oneOf(d, "M0 0", "m1 2", "M-3.5,7", "M 1 1", "", "M16777216 0", "M0-16777215"))
	for range d.below(8) {
		letter := oneOf(d, "M", "m", "L", "l", "H", "h", "V", "v", "C", "c", "Q", "q", "Z", "z", "Z", "S")
		count := map[string]int{"M": 2, "L": 2, "H": 1, "V": 1, "C": 6, "Q": 4}[strings.ToUpper(letter)] * (1 + d.below(3))
		if d.below(25) == 0 {
			count = d.below(9)
		}
		b.WriteString(letter + oneOf(d, "", "", " ", ", "))
		for k := range count {
			if k > 0 {
				b.WriteString(oneOf(d, " ", ",", " ", " , ", "\n"))
			}
			b.WriteString(oneOf(d, "1", "2", "-1.5", "0", "30", "-7.7", "0.25", ".00001", "-.00002", "5", "-3"))
		}
		b.WriteString(oneOf(d, "", " ", ", ", "", ""))
	}
	return b.String()
}

func TestReadPathOfAnyTexts(t *testing.T) {
	d := dice(74)
	good := 0
	for range 40000 {
		s := somePath(&d)
		if d.below(4) == 0 && s != "" {
			b := []byte(s)
			b[d.below(len(b))] = oneOf(&d, "0", "-", ".", ",", " ", "z", "h", "M", "e", "\x00", "\xff")[0]
			s = string(b)
		}
		want, ok := pathAsTold(s)
		if !ok || len(s) > impl.MaxValue {
			checkNoPath(t, s)
			continue
		}
		good++
		checkPath(t, s, want...)
	}
	if good < 5000 {
		t.Error("only", good, "are good")
	}
}

func TestReadPathOfManyNumbers(t *testing.T) {
	d := dice(75)
	for range 500 {
		count := 1 + d.below(59)
		s, want := "M0 0L", []impl.Step{move(0, 0)}
		for range count {
			x, y := d.below(9), -d.below(9)
			s += strconv.Itoa(x) + " " + strconv.Itoa(y) + ","
			want = append(want, lineUpTo(x, y))
		}
		checkPath(t, s, want...)
	}
}

func TestStepsAreNewMemory(t *testing.T) {
	s := "M1 2 3 4h5v6C1 2 3 4 5 6 7 8 9 10 11 12Q3 6 9 12Zm1 1"
	want := stepsFor(t, s)
	first, second := stepsFor(t, s), stepsFor(t, s)
	for k := range first {
		for j := range first[k].N {
			first[k].N[j] = -7
		}
		fill(first[k].N, -8)
		for other := range first {
			if other != k && other > k && !slices.Equal(first[other].N, want[other].N) {
				t.Fatal("the numbers of step", k, "lie where those of", other, "lie")
			}
		}
	}
	fill(first, impl.Step{Kind: -1})
	for k := range first {
		first[k] = impl.Step{}
	}
	if !sameSteps(second, want) || !sameSteps(stepsFor(t, s), want) {
		t.Error(second)
	}
}
