package tests

import (
	"math/big"
	"regexp"
	"slices"
	"strconv"
	"strings"
	"testing"
	"unicode/utf8"

	"loop.example/g00137/impl"
)

const one = impl.One

// fixedText tells a fixed number by six digits behind the point, which are enough for each of them.
func fixedText(t *testing.T, n int) string {
	t.Helper()
	s := big.NewRat(int64(n), impl.One).FloatString(6)
	if got, ok := impl.ReadFixed(s); got != n || !ok {
		t.Fatalf("%d is told as %q: %d, %v", n, s, got, ok)
	}
	return s
}

func TestConstantsOfValues(t *testing.T) {
	if impl.MaxValue != 600 || impl.MaxSteps != 60 {
		t.Error(impl.MaxValue, impl.MaxSteps)
	}
	if impl.StepMove != 1 || impl.StepLine != 2 || impl.StepCurve != 3 || impl.StepClose != 4 {
		t.Error(impl.StepMove, impl.StepLine, impl.StepCurve, impl.StepClose)
	}
}

func checkLength(t *testing.T, s string, want int) {
	t.Helper()
	if got, ok := impl.ReadLength(s); got != want || !ok {
		t.Errorf("%q: ReadLength %d, %v; not %d", s, got, ok, want)
	}
}

func checkNoLength(t *testing.T, s string) {
	t.Helper()
	if got, ok := impl.ReadLength(s); got != 0 || ok {
		t.Errorf("%q: ReadLength %d, %v", s, got, ok)
	}
}

// A share is what a unit makes of a number, as the document tells it.
type share struct {
	unit  string
	times int
	by    int
}

func sharesAsTold() []share {
	return []share{{"", 1, 1}, {"px", 1, 1}, {"pt", 400, 300}, {"pc", 1600, 100}, {"in", 9600, 100}, {"cm", 9600, 254}, {"mm", 9600, 2540}}
}

func downAsTold(a *big.Int, b int) int {
	return int(new(big.Int).Div(a, whole(b)).Int64())
}

func TestReadLengthByHand(t *testing.T) {
	for s, want := range map[string]int{
		"0": 0, "1": one, "-1": -one, "+1": one, "1.5": one + one/2, ".5": one / 2, "-.5": -one / 2, "007": 7 * one, "-0": 0,
		"1px": one, "-2.5px": -2*one - one/2, ".25px": one / 4, "0px": 0,
		"3pt": 4 * one, "1pt": 87381, "-1pt": -87382, "2pt": 174762, "-2pt": -174763, "+3pt": 4 * one, "0.75pt": one,
		"1pc": 16 * one, "-.5pc": -8 * one,
		"1in": 96 * one, "-1in": -96 * one, ".5in": 48 * one, "0.000016in": 96,
		"2.54cm": 6291439, "1cm": 2476951, "-1cm": -2476952, "254cm": 9600 * one,
		"1mm": 247695, "-1mm": -247696, "25.4mm": 6291454, "254mm": 960 * one, "-254mm": -960 * one,
		" 1 ": one, "\t\n\r 1px \r\n\t": one, " -1mm\n": -247696,
		"12345678px": 12345678 * one,
	} {
		checkLength(t, s, want)
	}
}

func TestReadLengthRoundsDownOnce(t *testing.T) {
	for _, n := range someFixed() {
		for _, u := range sharesAsTold() {
			want := downAsTold(times(n, u.times), u.by)
			s := fixedText(t, n) + u.unit
			if impl.GoodFixed(want) {
				checkLength(t, s, want)
			} else {
				checkNoLength(t, s)
			}
		}
	}
}

func TestReadLengthUpToTheLastFixedOne(t *testing.T) {
	for _, u := range sharesAsTold() {
		greatest := downAsTold(new(big.Int).Sub(times(impl.MaxFixed+1, u.by), whole(1)), u.times)
		least := -downAsTold(times(impl.MaxFixed, u.by), u.times)
		checkLength(t, fixedText(t, greatest)+u.unit, downAsTold(times(greatest, u.times), u.by))
		checkLength(t, fixedText(t, least)+u.unit, downAsTold(times(least, u.times), u.by))
		if u.times == u.by {
			checkNoLength(t, "16777216.000016"+u.unit)
			checkNoLength(t, "-16777216.000016"+u.unit)
			checkNoLength(t, "16777217"+u.unit)
			checkNoLength(t, "99999999"+u.unit)
			continue
		}
		checkNoLength(t, fixedText(t, greatest+1)+u.unit)
		checkNoLength(t, fixedText(t, least-1)+u.unit)
	}
}

func TestReadLengthRefuses(t *testing.T) {
	for _, s := range []string{
		"", " ", "px", " px ", "-", "+", ".", "-px", ".px", "-.px", "1.", "1.px", "1 px", "1\tpx", "1 in", "1PX", "1Px", "1pX", "1IN", "1Mm", "1CM",
		"1PT", "1Pc", "1em", "1ex", "1%", "1q", "1x", "1p", "1pxx", "1pxpx", "1ptpx", "1pxpt", "1inmm", "px1", "1px1", "1px,", "1px 2px", "1 2",
		"1,2", "1,", ",1", "--1", "+-1", "- 1", "1-", "1.2.3", "1e3", "1e3px", "0x10", "1_0", "123456789", "1.1234567", "000000001px", "1\x00", "\x001", "1\v", "\f1", "1\u00a0",
		"\uff11", "1p\u0445",
	} {
		checkNoLength(t, s)
	}
}

func checkNumbers(t *testing.T, s string, want ...int) {
	t.Helper()
	if got, ok := impl.ReadNumbers(s); !slices.Equal(got, want) || !ok {
		t.Errorf("%q: ReadNumbers %v, %v; not %v", s, got, ok, want)
	}
}

func checkNoNumbers(t *testing.T, texts ...string) {
	t.Helper()
	for _, s := range texts {
		if got, ok := impl.ReadNumbers(s); len(got) != 0 || ok {
			t.Errorf("%q: ReadNumbers %v, %v", s, got, ok)
		}
	}
}

func TestReadNumbersBetweenTwo(t *testing.T) {
	blanks := []string{" ", "\t", "\n", "\r", "  ", " \t\r\n"}
	for _, a := range append([]string{""}, blanks...) {
		for _, b := range append([]string{""}, blanks...) {
			checkNumbers(t, "1"+a+","+b+"2", one, 2*one)
			checkNumbers(t, "1"+a+","+b+"-.5"+a+","+b+"+3", one, -one/2, 3*one)
			checkNumbers(t, a+"1"+b, one)
			checkNumbers(t, a+"1 2"+b, one, 2*one)
			checkNoNumbers(t, "1"+a+","+b+",2", "1,"+a+","+b+"2", "1"+a+b+",", a+b+",1", "1,2"+a+","+b, a+","+b+"1 2", a+","+b)
		}
	}
	for _, a := range blanks {
		checkNumbers(t, "1"+a+"2", one, 2*one)
		checkNumbers(t, ".5"+a+".5", one/2, one/2)
		checkNumbers(t, "1"+a+"-2"+a+"+3", one, -2*one, 3*one)
	}
	for _, s := range []string{"\v", "\f", "\x00", ";", ":", "/", "\u00a0", "\x85", "\xa0", "\u3000", "(", "_"} {
		checkNoNumbers(t, "1"+s+"2", "1 "+s+" 2", s+"1", "1"+s)
	}
}

func TestReadNumbersWithNothingBetween(t *testing.T) {
	checkNumbers(t, "1-2", one, -2*one)
	checkNumbers(t, "1+2", one, 2*one)
	checkNumbers(t, "1.5-2.5", one+one/2, -2*one-one/2)
	checkNumbers(t, "-1-1-1", -one, -one, -one)
	checkNumbers(t, ".5-.5+.5", one/2, -one/2, one/2)
	checkNumbers(t, "1-2,.5", one, -2*one, one/2)
	checkNumbers(t, "+1-0+0", one, 0, 0)
	checkNumbers(t, "12345678-12345678", 12345678*one, -12345678*one)
	checkNumbers(t, "16777216-16777216", impl.MaxFixed, -impl.MaxFixed)
	checkNoNumbers(t, "1.2.3", ".5.5", "1.5.5", "1 .5.5", "1.2.3 4", "1.2-3.4.5", "123456789", "1234567812345678", "1.1234567", "1.123456.1")
}

func TestReadNumbersRefuses(t *testing.T) {
	checkNoNumbers(t, "", " ", "\t\n\r ", ",", ",,", "-", "+", ".", "-.", "+.", "--1", "++1", "+-1", "-+1", "1--1", "1-+1", "1 - 1", "- 1", "1 -", "1-", "1+",
		"1.", "1. ", "1.,2", "1. 2", "1.-2", "1 2.", "1 .", "1. .5", ".-5", "1e3", "1E3", "1e", "e1", "1 e", "1px", "1 2px", "0x1", "1a", "a", "1 a 2", "1 2 a", "1,2,,3", "1,,2",
		",1", "1,", "1 2,", ", 1", "1 ,", "16777217", "1 16777217", "16777217 1", "16777216.000016", "-16777216.000016", "1;2", "1_000", "1 2\x00", "\xff", "1\xff2", "inf", "nan")
}

func TestReadNumbersHowMany(t *testing.T) {
	for count := 1; count <= 70; count++ {
		var told []string
		var want []int
		for k := range count {
			told, want = append(told, strconv.Itoa(k)), append(want, k*one)
		}
		for _, between := range []string{" ", ",", " ,", ", ", " , ", "\n"} {
			s := strings.Join(told, between)
			if len(s) <= impl.MaxValue && count <= impl.MaxSteps {
				checkNumbers(t, s, want...)
			} else {
				checkNoNumbers(t, s)
			}
		}
		if s := strings.Repeat("-1", count); count <= impl.MaxSteps {
			checkNumbers(t, s, slices.Repeat([]int{-one}, count)...)
		} else {
			checkNoNumbers(t, s)
		}
	}
}

const numberForm = `[-+]?(?:[0-9]*\.[0-9]+|[0-9]+)`

var numberAsTold = regexp.MustCompile(numberForm)
var rowAsTold = regexp.MustCompile(`^` + numberForm + `(?:(?:[\t\n\r ]+|[\t\n\r ]*,[\t\n\r ]*)` + numberForm + `|[-+](?:[0-9]*\.[0-9]+|[0-9]+))*$`)

// numbersAsTold has no limit: paths ask for it too.
func numbersAsTold(s string) ([]int, bool) {
	if !rowAsTold.MatchString(s) {
		return nil, false
	}
	var row []int
	for _, told := range numberAsTold.FindAllString(s, -1) {
		n, ok := impl.ReadFixed(told)
		if !ok {
			return nil, false
		}
		row = append(row, n)
	}
	return row, true
}

// someRow answers a text that looks like numbers, often wrong in one place.
func someRow(d *dice, count int) string {
	var b strings.Builder
	for range count {
		b.WriteString(oneOf(d, "1", "0", "-2", "+3", ".5", "-.25", "1.5", "-1.125", "12345678", "100000000", "1.", "00", "16777216", "-0.000008", "7"))
		b.WriteString(oneOf(d, " ", ",", " , ", ", ", "\n", "\t,", "", " ", ",", " ", " ", ",", ",,"))
	}
	s := b.String()
	if d.below(4) != 0 {
		s = strings.TrimRight(s, " ,\n\t")
	}
	return s
}

func TestReadNumbersOfAnyRow(t *testing.T) {
	d := dice(7)
	good := 0
	for range 40000 {
		s := someRow(&d, 1+d.below(6))
		if d.below(3) == 0 {
			b := []byte(s)
			b[d.below(len(b))] = oneOf(&d, "0", "-", "+", ".", ",", " ", "e", "\xff")[0]
			s = string(b)
		}
		want, ok := numbersAsTold(strings.Trim(s, "\t\n\r "))
		if !ok {
			checkNoNumbers(t, s)
			continue
		}
		good++
		checkNumbers(t, s, want...)
	}
	if good < 4000 {
		t.Error("only", good, "rows are good")
	}
}

func checkColor(t *testing.T, s string, r, g, b int) {
	t.Helper()
	if got, ok := impl.ReadColor(s); got != (impl.Color{R: r, G: g, B: b}) || !ok {
		t.Errorf("%q: ReadColor %v, %v; not %d %d %d", s, got, ok, r, g, b)
	}
}

func checkNoColor(t *testing.T, texts ...string) {
	t.Helper()
	for _, s := range texts {
		if got, ok := impl.ReadColor(s); got != (impl.Color{}) || ok {
			t.Errorf("%q: ReadColor %v, %v", s, got, ok)
		}
	}
}

func TestReadColorByDigits(t *testing.T) {
	checkColor(t, "#f80", 255, 136, 0)
	checkColor(t, "#F80", 255, 136, 0)
	checkColor(t, "#aBc", 170, 187, 204)
	checkColor(t, "#000", 0, 0, 0)
	checkColor(t, "#ffffff", 255, 255, 255)
	checkColor(t, "#FFffFf", 255, 255, 255)
	checkColor(t, "#010203", 1, 2, 3)
	checkColor(t, "#AbCdEf", 171, 205, 239)
	checkColor(t, " \t#789\r\n", 119, 136, 153)
	for n := range 1 << 12 {
		s := strconv.FormatInt(int64(1<<12+n), 16)[1:]
		checkColor(t, "#"+s, n>>8*17, n>>4&15*17, n&15*17)
		checkColor(t, "#"+strings.ToUpper(s), n>>8*17, n>>4&15*17, n&15*17)
	}
	d := dice(70)
	for range 2000 {
		n := d.below(1 << 24)
		s := strconv.FormatInt(int64(1<<24+n), 16)[1:]
		checkColor(t, "#"+s, n>>16, n>>8&255, n&255)
		checkColor(t, "#"+strings.ToUpper(s), n>>16, n>>8&255, n&255)
	}
	for count := range 12 {
		if count != 3 && count != 6 {
			checkNoColor(t, "#"+strings.Repeat("0", count), "#"+strings.Repeat("f", count))
		}
	}
	checkNoColor(t, "f80", "ff8800", "# f80", "#f 80", "#f8 0", "##f80", "#f80#", "#g80", "#fg0", "#f8g", "#f8G", "#f8@", "#f8`", "#f8/", "#f8:", "#-12", "#+12", "#1_2", "#0x1",
		"#0xffff", "#1_2_3_", "#-12345", "#+12345", "#12345g", "#g12345", "#f.0", "#é1", "#ёж1", "#\xff\xff\xff", "#f80 #f80", "#f80;", "f80#")
}

func TestReadColorByNumbers(t *testing.T) {
	checkColor(t, "rgb(1,2,3)", 1, 2, 3)
	checkColor(t, "rgb(0,00,000)", 0, 0, 0)
	checkColor(t, "rgb(001,010,100)", 1, 10, 100)
	checkColor(t, "rgb(255,254,253)", 255, 254, 253)
	checkColor(t, "rgb(256,300,999)", 255, 255, 255)
	checkColor(t, "rgb(256,1,2)", 255, 1, 2)
	checkColor(t, "rgb(1,256,2)", 1, 255, 2)
	checkColor(t, "rgb(1,2,256)", 1, 2, 255)
	for _, b := range []string{" ", "\t", "\n", "\r", " \t\n\r "} {
		for form, r := range map[string]int{"rgb(*1,2,3)": 1, "rgb(1*,2,3)": 1, "rgb(4,*2,3)": 4, "rgb(5,2*,3)": 5, "rgb(6,2,*3)": 6, "rgb(7,2,3*)": 7, "*rgb(8,2,3)*": 8,
			"*rgb(*9*,*2*,*3*)*": 9} {
			checkColor(t, ofForm(form, b), r, 2, 3)
		}
		for _, form := range []string{"rgb*(1,2,3)", "r*gb(1,2,3)", "rgb(1*1,2,3)", "rgb(1*2*3)", "rgb(1,2*3)", "rgb(*,1,2)", "rgb(1,*,2)", "rgb(1,2,*)"} {
			checkNoColor(t, ofForm(form, b))
		}
	}
	for n := range 1000 {
		s, want := strconv.Itoa(n), min(n, 255)
		checkColor(t, "rgb("+s+",0,0)", want, 0, 0)
		checkColor(t, "rgb(0,"+s+",0)", 0, want, 0)
		checkColor(t, "rgb(0,0,"+s+")", 0, 0, want)
	}
	checkNoColor(t, "rgb()", "rgb(1)", "rgb(1,2)", "rgb(1,2,3,4)", "rgb(1,2,3,)", "rgb(,1,2,3)", "rgb(,,)", "rgb(1,,3)", "rgb(,2,3)", "rgb(1,2,)", "rgb(1000,2,3)", "rgb(1,0000,3)",
		"rgb(1,2,0001)", "rgb(-1,2,3)", "rgb(1,+2,3)", "rgb(1,2,3.0)", "rgb(1,2,.5)", "rgb(1%,2,3)", "rgb(10%,20%,30%)", "rgb(1 2 3)", "rgb(1,2,3", "rgb 1,2,3)", "rgb1,2,3", "1,2,3",
		"(1,2,3)", "RGB(1,2,3)", "Rgb(1,2,3)", "rgB(1,2,3)", "rgba(1,2,3)", "rgba(1,2,3,4)", "rgb[1,2,3]", "rgb((1,2,3)", "rgb(1,2,3))", "rgb(1,2,3)a", "rgb(1,2,3),", "argb(1,2,3)", "rgb",
		"rgb(", "rgb)", "rgb(a,2,3)", "rgb(1,0x1,3)", "rgb(1,2,f)", "rgb(1;2;3)", "rgb(1,2\v,3)", "rgb(1,2,3) rgb(1,2,3)")
}

func colorsAsTold() map[string][3]int {
	return map[string][3]int{
		"black": {0, 0, 0}, "white": {255, 255, 255}, "red": {255, 0, 0}, "lime": {0, 255, 0}, "blue": {0, 0, 255}, "green": {0, 128, 0}, "gray": {128, 128, 128},
		"silver": {192, 192, 192}, "maroon": {128, 0, 0}, "navy": {0, 0, 128}, "olive": {128, 128, 0}, "purple": {128, 0, 128}, "teal": {0, 128, 128},
		"aqua": {0, 255, 255}, "fuchsia": {255, 0, 255}, "yellow": {255, 255, 0}, "orange": {255, 165, 0},
	}
}

func TestReadColorByName(t *testing.T) {
	for name, c := range colorsAsTold() {
		mixed := []byte(name)
		for k := 0; k < len(mixed); k += 2 {
			mixed[k] -= 32
		}
		capital := strings.ToUpper(name)
		for _, s := range []string{name, capital, string(mixed), strings.ToUpper(name[:1]) + name[1:], " " + name, name + "\n", "\t\r" + capital + " "} {
			checkColor(t, s, c[0], c[1], c[2])
		}
		checkNoColor(t, name[1:], name[:len(name)-1], name+"s", "x"+name, name+" "+name, name+name, name[:2]+" "+name[2:], "#"+name, name+"\x00", name+",", "'"+name+"'", name+"(")
		for k := range len(name) {
			other := []byte(name)
			other[k] ^= 0x40
			checkNoColor(t, string(other))
		}
	}
	checkNoColor(t, "", " ", "none", "currentColor", "inherit", "transparent", "grey", "cyan", "magenta", "pink", "brown", "url(#a)", "blac\u212a", "BLAC\u212a", "\u017filver", "teal\u00a0", "réd")
}

func checkPart(t *testing.T, s string, want int) {
	t.Helper()
	if got, ok := impl.ReadPart(s); got != want || !ok {
		t.Errorf("%q: ReadPart %d, %v; not %d", s, got, ok, want)
	}
}

func checkNoPart(t *testing.T, s string) {
	t.Helper()
	if got, ok := impl.ReadPart(s); got != 0 || ok {
		t.Errorf("%q: ReadPart %d, %v", s, got, ok)
	}
}

func TestReadPart(t *testing.T) {
	for s, want := range map[string]int{
		"0": 0, "-0": 0, "1": 256, "+1": 256, ".5": 128, "0.25": 64, "0.75": 192, "1.0": 256, "1.000001": 256, "2": 256, "16777216": 256, "-1": 0, "-.000001": 0, "-.5": 0,
		"-16777216": 0, " .5 ": 128, "\t\n\r1\r\n\t": 256, "0.1": 26, "0.9": 230, "0.3": 77, "0.00194": 0, "0.001953": 1, "0.998": 255, "0.99805": 256, "0.999": 256, "-00.001": 0,
	} {
		checkPart(t, s, want)
	}
	for n := -300; n <= one+300; n++ {
		within := min(max(n, 0), one)
		checkPart(t, fixedText(t, n), downAsTold(new(big.Int).Add(times(within, 256), whole(one/2)), one))
	}
	for k := range 256 {
		// A half between two parts goes up, and what is one part of 65536 below it goes down.
		half := k*256 + 128
		checkPart(t, fixedText(t, half), k+1)
		checkPart(t, fixedText(t, half-1), k)
	}
	for _, s := range []string{"", " ", "50%", "1.", ".", "-", "1px", "1,", "1 1", "--1", "1e0", "a", "none", "16777217", "-16777217", "123456789", "0.1234567", "1\v", "\x00"} {
		checkNoPart(t, s)
	}
}

// padded answers texts of so many bytes that are s with blanks ahead, behind and around.
func padded(s string, size int) []string {
	room := size - len(s)
	return []string{
		strings.Repeat(" ", room) + s,
		s + strings.Repeat("\n", room),
		strings.Repeat("\t", room/2) + s + strings.Repeat("\r", room-room/2),
	}
}

func TestValuesOfTooLongTexts(t *testing.T) {
	for _, s := range padded("1px", impl.MaxValue) {
		checkLength(t, s, one)
	}
	for _, s := range padded("1 -2", impl.MaxValue) {
		checkNumbers(t, s, one, -2*one)
	}
	checkNumbers(t, "1"+strings.Repeat(" ", impl.MaxValue-2)+"2", one, 2*one)
	for _, form := range []string{"red", "#f00", "rgb(255,0,0)"} {
		for _, s := range padded(form, impl.MaxValue) {
			checkColor(t, s, 255, 0, 0)
		}
	}
	checkColor(t, "rgb(255,"+strings.Repeat(" ", impl.MaxValue-12)+"0,0)", 255, 0, 0)
	for _, s := range padded("1", impl.MaxValue) {
		checkPart(t, s, 256)
	}
	for _, size := range []int{impl.MaxValue + 1, impl.MaxValue + 2, 5000, 100000} {
		for _, s := range padded("1px", size) {
			checkNoLength(t, s)
		}
		for _, s := range padded("1 -2", size) {
			checkNoNumbers(t, s)
		}
		checkNoNumbers(t, "1"+strings.Repeat(" ", size-2)+"2")
		for _, form := range []string{"red", "#f00", "rgb(255,0,0)"} {
			checkNoColor(t, padded(form, size)...)
		}
		checkNoColor(t, "rgb(255,"+strings.Repeat(" ", size-12)+"0,0)")
		for _, s := range padded("1", size) {
			checkNoPart(t, s)
		}
	}
}

// lengthAsTold, colorAsTold and partAsTold tell the chapter again by its forms.
var lengthForm = regexp.MustCompile(`^[\t\n\r ]*(` + numberForm + `)(px|pt|pc|in|cm|mm|)[\t\n\r ]*$`)
var digitsForm = regexp.MustCompile(`^#(?:[0-9a-fA-F]{3}|[0-9a-fA-F]{6})$`)
var toneForm = regexp.MustCompile(`^rgb\([\t\n\r ]*([0-9]{1,3})[\t\n\r ]*,[\t\n\r ]*([0-9]{1,3})[\t\n\r ]*,[\t\n\r ]*([0-9]{1,3})[\t\n\r ]*\)$`)

func lengthAsTold(s string) (int, bool) {
	m := lengthForm.FindStringSubmatch(s)
	if m == nil {
		return 0, false
	}
	n, ok := impl.ReadFixed(m[1])
	for _, u := range sharesAsTold() {
		if u.unit == m[2] && ok {
			n = downAsTold(times(n, u.times), u.by)
		}
	}
	if !ok || !impl.GoodFixed(n) {
		return 0, false
	}
	return n, true
}

func colorAsTold(s string) (impl.Color, bool) {
	s = strings.Trim(s, "\t\n\r ")
	var tones [3]int
	if digitsForm.MatchString(s) {
		size := (len(s) - 1) / 3
		for k := range tones {
			n, _ := strconv.ParseInt(strings.Repeat(s[1+k*size:1+k*size+size], 3-size), 16, 32)
			tones[k] = int(n)
		}
		return impl.Color{R: tones[0], G: tones[1], B: tones[2]}, true
	}
	if m := toneForm.FindStringSubmatch(s); m != nil {
		for k := range tones {
			n, _ := strconv.Atoi(m[1+k])
			tones[k] = min(n, 255)
		}
		return impl.Color{R: tones[0], G: tones[1], B: tones[2]}, true
	}
	for name, c := range colorsAsTold() {
		if strings.EqualFold(s, name) && len(s) == len(name) && utf8.RuneCountInString(s) == len(s) {
			return impl.Color{R: c[0], G: c[1], B: c[2]}, true
		}
	}
	return impl.Color{}, false
}

func TestValuesOfAnyTexts(t *testing.T) {
	d := dice(77)
	seeds := []string{"1px", "-2.5mm", ".5in", " 12pt", "#f80", "#12aBcd", "rgb(1,2,3)", "rgb( 255 , 0,999 )", "black", "Orange", "0.5", " 1 ", "16777216", "3pc", "1.5cm"}
	lengths, colors, parts := 0, 0, 0
	for range 60000 {
		b := []byte(oneOf(&d, seeds...))
		for range d.below(3) {
			b[d.below(len(b))] = oneOf(&d, "0", "9", "-", ".", " ", ",", "f", "G", "p", "x", "#", "(", ")", "\t", "\x00", "\xff")[0]
		}
		s := string(b)
		n, ok := lengthAsTold(s)
		if got, gotOk := impl.ReadLength(s); got != n || gotOk != ok {
			t.Errorf("%q: ReadLength %d, %v; not %d, %v", s, got, gotOk, n, ok)
		}
		c, isColor := colorAsTold(s)
		if got, gotOk := impl.ReadColor(s); got != c || gotOk != isColor {
			t.Errorf("%q: ReadColor %v, %v; not %v, %v", s, got, gotOk, c, isColor)
		}
		x, isPart := impl.ReadFixed(strings.Trim(s, "\t\n\r "))
		if isPart {
			checkPart(t, s, (min(max(x, 0), one)*256+one/2)>>16)
			parts++
		} else {
			checkNoPart(t, s)
		}
		if ok {
			lengths++
		}
		if isColor {
			colors++
		}
	}
	if lengths < 2000 || colors < 2000 || parts < 1000 {
		t.Error("only", lengths, "lengths,", colors, "colors,", parts, "parts")
	}
}

func TestNumbersAreNewMemory(t *testing.T) {
	s := "1 2 3 4 5"
	first, _ := impl.ReadNumbers(s)
	second, _ := impl.ReadNumbers(s)
	for k := range first {
		first[k] = -7
	}
	fill(first, -8)
	if want := []int{one, 2 * one, 3 * one, 4 * one, 5 * one}; !slices.Equal(second, want) {
		t.Error(second, "after", first)
	}
	checkNumbers(t, s, one, 2*one, 3*one, 4*one, 5*one)
}
