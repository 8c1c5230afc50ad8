package tests

import (
	"math"
	"math/big"
	"strings"
	"sync"
	"testing"

	"loop.example/g00137/impl"
)

// noFixed are ints just beyond the fixed numbers, and as far beyond them as can be.
var noFixed = []int{impl.MaxFixed + 1, -impl.MaxFixed - 1, 1 << 41, math.MaxInt, math.MinInt, math.MinInt + 1}

// someFixed answers the edges and numbers of many sizes, each with both signs.
func someFixed() []int {
	sizes := []int{0, 1, 2, 3, 7, 255, 32767, 32768, 32769, 65535, 65536, 65537, 98304, 131071, 131072, 131073,
		1<<28 - 1, 1 << 28, 1<<28 + 1, impl.MaxFixed / 3, impl.MaxFixed - 1, impl.MaxFixed}
	n := uint64(88172645463325252)
	for k := range 60 {
		n ^= n << 13
		n ^= n >> 7
		n ^= n << 17
		sizes = append(sizes, int(n>>(24+k%40)))
	}
	var out []int
	for _, s := range sizes {
		out = append(out, s, -s)
	}
	return out
}

// nearestCut answers a / b by whole numbers of any size: to the nearest, halves to the greater, cut to the fixed numbers.
func nearestCut(a, b *big.Int) int {
	two := big.NewInt(2)
	if b.Sign() < 0 {
		a, b = new(big.Int).Neg(a), new(big.Int).Neg(b)
	}
	top := new(big.Int).Add(new(big.Int).Mul(a, two), b)
	q := new(big.Int).Div(top, new(big.Int).Mul(b, two)) // b is above 0: this is down
	if q.Cmp(big.NewInt(impl.MaxFixed)) > 0 {
		return impl.MaxFixed
	}
	if q.Cmp(big.NewInt(-impl.MaxFixed)) < 0 {
		return -impl.MaxFixed
	}
	return int(q.Int64())
}

func whole(x int) *big.Int { return big.NewInt(int64(x)) }

func times(a, b int) *big.Int { return new(big.Int).Mul(whole(a), whole(b)) }

func TestConstantsOfFixed(t *testing.T) {
	if impl.MaxFixed != 1<<40 || impl.One != 1<<16 || impl.Round != 1<<12 {
		t.Error(impl.MaxFixed, impl.One, impl.Round)
	}
}

func TestGoodFixed(t *testing.T) {
	for _, x := range someFixed() {
		if !impl.GoodFixed(x) {
			t.Error(x, "is fixed")
		}
	}
	for _, x := range noFixed {
		if impl.GoodFixed(x) {
			t.Error(x, "is not fixed")
		}
	}
}

func TestFixMulDoesNotHangOnOrder(t *testing.T) {
	for _, a := range someFixed() {
		for _, b := range someFixed() {
			got := impl.FixMul(a, b)
			if back := impl.FixMul(b, a); back != got {
				t.Fatalf("FixMul(%d, %d) is %d, the other way round %d", a, b, got, back)
			}
			if want := nearestCut(times(a, b), whole(impl.One)); got != want {
				t.Fatalf("FixMul(%d, %d) is %d, not %d", a, b, got, want)
			}
		}
	}
}

func TestFixDivIsNearest(t *testing.T) {
	for _, a := range someFixed() {
		for _, b := range someFixed() {
			want := 0
			if b != 0 {
				want = nearestCut(times(a, impl.One), whole(b))
			}
			if got := impl.FixDiv(a, b); got != want {
				t.Fatalf("FixDiv(%d, %d) is %d, not %d", a, b, got, want)
			}
		}
	}
}

func TestFixMulHalvesAndCuts(t *testing.T) {
	for _, c := range [][3]int{
		{1, 32768, 1}, {-1, 32768, 0}, {1, -32768, 0}, {-1, -32768, 1},
		{3, 32768, 2}, {-3, 32768, -1}, {3, -32768, -1}, {-3, -32768, 2},
		{1, 32767, 0}, {-1, 32767, 0}, {1, 32769, 1}, {-1, 32769, -1},
		{98304, 98304, 147456}, {-98304, 98304, -147456},
		{impl.MaxFixed, impl.One, impl.MaxFixed}, {-impl.MaxFixed, impl.One, -impl.MaxFixed},
		{impl.MaxFixed, impl.One + 1, impl.MaxFixed}, {-impl.MaxFixed, impl.One + 1, -impl.MaxFixed},
		{impl.MaxFixed, impl.MaxFixed, impl.MaxFixed}, {-impl.MaxFixed, impl.MaxFixed, -impl.MaxFixed},
		{-impl.MaxFixed, -impl.MaxFixed, impl.MaxFixed},
		{1 << 32, 1 << 32, impl.MaxFixed}, {1 << 32, -1 << 32, -impl.MaxFixed}, {1 << 28, 1 << 28, impl.MaxFixed},
		{65537 * 6700417, 255 * 257 * 641, impl.MaxFixed}, {-65537 * 6700417, 255 * 257 * 641, -impl.MaxFixed}, // 2^64 less 1
		{1<<28 - 1, 1 << 28, impl.MaxFixed - 4096}, {0, -impl.MaxFixed, 0}, {impl.MaxFixed, 0, 0},
	} {
		if got := impl.FixMul(c[0], c[1]); got != c[2] {
			t.Errorf("FixMul(%d, %d) is %d, not %d", c[0], c[1], got, c[2])
		}
	}
}

func TestFixDivHalvesAndCuts(t *testing.T) {
	for _, c := range [][3]int{
		{1, 131072, 1}, {-1, 131072, 0}, {1, -131072, 0}, {-1, -131072, 1},
		{3, 131072, 2}, {-3, 131072, -1}, {3, -131072, -1}, {-3, -131072, 2},
		{1, 3, 21845}, {2, 3, 43691}, {-1, 3, -21845}, {-2, 3, -43691},
		{0, 0, 0}, {1, 0, 0}, {-1, 0, 0}, {impl.MaxFixed, 0, 0}, {-impl.MaxFixed, 0, 0},
		{impl.MaxFixed, 1, impl.MaxFixed}, {-impl.MaxFixed, 1, -impl.MaxFixed},
		{impl.MaxFixed, -1, -impl.MaxFixed}, {-impl.MaxFixed, -1, impl.MaxFixed},
		{impl.MaxFixed, impl.One, impl.MaxFixed}, {impl.MaxFixed, impl.One - 1, impl.MaxFixed},
		{impl.MaxFixed, impl.MaxFixed, impl.One}, {-impl.MaxFixed, impl.MaxFixed, -impl.One},
		{0, impl.MaxFixed, 0}, {0, -impl.MaxFixed, 0}, {1, impl.MaxFixed, 0}, {-1, impl.MaxFixed, 0},
	} {
		if got := impl.FixDiv(c[0], c[1]); got != c[2] {
			t.Errorf("FixDiv(%d, %d) is %d, not %d", c[0], c[1], got, c[2])
		}
	}
}

func TestFixRootIsGreatestBelow(t *testing.T) {
	numbers := someFixed()
	for a := range 2000 {
		numbers = append(numbers, a)
	}
	for r := 1; r < 1<<28; r = r*3 + 1 { // just at and just below and above what has a whole root
		a := r * r / impl.One
		numbers = append(numbers, a, a+1, max(a-1, 0))
	}
	for _, a := range numbers {
		r := impl.FixRoot(a)
		if a < 0 {
			if r != 0 {
				t.Fatalf("FixRoot(%d) is %d, not 0", a, r)
			}
			continue
		}
		all := times(a, impl.One)
		if !impl.GoodFixed(r) || times(r, r).Cmp(all) > 0 {
			t.Fatalf("FixRoot(%d) is %d: its square is above", a, r)
		}
		if times(r+1, r+1).Cmp(all) <= 0 {
			t.Fatalf("FixRoot(%d) is %d: the next one would do", a, r)
		}
	}
	for _, c := range [][2]int{{0, 0}, {1, 256}, {impl.One, impl.One}, {4 * impl.One, 2 * impl.One},
		{2 * impl.One, 92681}, {impl.MaxFixed, 1 << 28}, {impl.MaxFixed - 1, 1<<28 - 1}, {-1, 0}, {-impl.MaxFixed, 0}} {
		if got := impl.FixRoot(c[0]); got != c[1] {
			t.Errorf("FixRoot(%d) is %d, not %d", c[0], got, c[1])
		}
	}
}

// sineAsTold writes the document's rule down as it stands; angle is in 0..Round - 1.
func sineAsTold(angle int) int {
	table := []int{0, 6424, 12785, 19024, 25080, 30893, 36410, 41576, 46341, 50660, 54491, 57798, 60547, 62714, 64277, 65220, 65536}
	switch {
	case angle >= 2048:
		return -sineAsTold(angle - 2048)
	case angle >= 1025:
		return sineAsTold(2048 - angle)
	case angle == 1024:
		return table[16]
	}
	q, r := angle/64, angle%64
	return (table[q]*(64-r) + table[q+1]*r + 32) / 64
}

func TestSinAndCosOfAnyAngle(t *testing.T) {
	for angle := range impl.Round {
		for _, a := range []int{angle, angle - impl.Round, angle + impl.Round, angle - 1000*impl.Round,
			math.MinInt + angle, math.MaxInt - impl.Round + 1 + angle} { // both ends of the ints are whole rounds
			if got, want := impl.SinOf(a), sineAsTold(angle); got != want {
				t.Fatalf("SinOf(%d) is %d, not %d", a, got, want)
			}
			if got, want := impl.CosOf(a), sineAsTold((angle+1024)%impl.Round); got != want {
				t.Fatalf("CosOf(%d) is %d, not %d", a, got, want)
			}
		}
	}
	for _, c := range [][3]int{{0, 0, 65536}, {1, 100, 65531}, {512, 46341, 46341}, {1024, 65536, 0}, {1025, 65531, -100},
		{2048, 0, -65536}, {3072, -65536, 0}, {4095, -100, 65531}, {-1, -100, 65531}, {math.MinInt, 0, 65536}, {math.MaxInt, -100, 65531}} {
		if s, k := impl.SinOf(c[0]), impl.CosOf(c[0]); s != c[1] || k != c[2] {
			t.Errorf("SinOf and CosOf of %d are %d and %d, not %d and %d", c[0], s, k, c[1], c[2])
		}
	}
}

func TestSinOfForManyAtOnce(t *testing.T) {
	var all sync.WaitGroup
	var wrong [16]int
	for k := range wrong {
		all.Go(func() {
			for angle := range impl.Round {
				if impl.SinOf(angle) != sineAsTold(angle) {
					wrong[k]++
				}
			}
		})
	}
	all.Wait()
	for k, n := range wrong {
		if n != 0 {
			t.Errorf("goroutine %d: %d wrong", k, n)
		}
	}
}

func TestTurnOf(t *testing.T) {
	for _, d := range someFixed() {
		top := new(big.Int).Add(times(d, 2048), whole(90*impl.One))
		q := new(big.Int).Div(top, whole(180*impl.One))
		want := int(new(big.Int).Mod(q, whole(impl.Round)).Int64())
		if got := impl.TurnOf(d); got != want {
			t.Errorf("TurnOf(%d) is %d, not %d", d, got, want)
		}
	}
	for _, c := range [][2]int{{0, 0}, {90 * impl.One, 1024}, {-90 * impl.One, 3072}, {180 * impl.One, 2048}, {360 * impl.One, 0},
		{-360 * impl.One, 0}, {45 * impl.One, 512}, {450 * impl.One, 1024}, {1, 0}, {-1, 0},
		{2880, 1}, {2879, 0}, {-2880, 0}, {-2881, 4095}, {8640, 2}, {-8640, 4095}} { // 5760 parts are one angle
		if got := impl.TurnOf(c[0]); got != c[1] {
			t.Errorf("TurnOf(%d) is %d, not %d", c[0], got, c[1])
		}
	}
}

func TestNoFixedNumbersAnswerZero(t *testing.T) {
	for _, x := range noFixed {
		for _, y := range append(someFixed(), noFixed...) {
			if n := impl.FixMul(x, y); n != 0 {
				t.Errorf("FixMul(%d, %d) is %d", x, y, n)
			}
			if n := impl.FixMul(y, x); n != 0 {
				t.Errorf("FixMul(%d, %d) is %d", y, x, n)
			}
			if n := impl.FixDiv(x, y); n != 0 {
				t.Errorf("FixDiv(%d, %d) is %d", x, y, n)
			}
			if n := impl.FixDiv(y, x); n != 0 {
				t.Errorf("FixDiv(%d, %d) is %d", y, x, n)
			}
		}
		if n := impl.FixRoot(x); n != 0 {
			t.Errorf("FixRoot(%d) is %d", x, n)
		}
		if n := impl.TurnOf(x); n != 0 {
			t.Errorf("TurnOf(%d) is %d", x, n)
		}
	}
}

func TestReadFixedReads(t *testing.T) {
	for _, c := range []struct {
		text string
		want int
	}{
		{"0", 0}, {"-0", 0}, {"+0", 0}, {"-.0", 0}, {"1", 65536}, {"+1", 65536}, {"-1", -65536},
		{"-1.5", -98304}, {".25", 16384}, {"+.5", 32768}, {"-.5", -32768}, {"0.5", 32768},
		{"00000001", 65536}, {"00000001.000000", 65536}, {"12345678", 12345678 * 65536}, {"12345678.5", 12345678*65536 + 32768},
		{".000001", 0}, {"-.000001", 0}, {".000007", 0}, {".000008", 1}, {"-.000007", 0}, {"-.000008", -1},
		{".000022", 1}, {".000023", 2}, {"-.000022", -1}, {"-.000023", -2},
		{".1", 6554}, {"-.1", -6554}, {".3", 19661}, {"-.3", -19661}, {".999999", 65536}, {"-.999999", -65536}, {".123456", 8091},
		{"16777216", impl.MaxFixed}, {"-16777216", -impl.MaxFixed}, {"16777216.000000", impl.MaxFixed},
		{"16777215.999999", impl.MaxFixed}, {"16777215.99999", impl.MaxFixed - 1}, {"-16777215.99999", -impl.MaxFixed + 1},
		{"16777216.000007", impl.MaxFixed}, {"-16777216.000007", -impl.MaxFixed},
	} {
		if n, ok := impl.ReadFixed(c.text); n != c.want || !ok {
			t.Errorf("ReadFixed(%q) is %d, %v, not %d", c.text, n, ok, c.want)
		}
	}
}

func TestReadFixedRefuses(t *testing.T) {
	for _, text := range []string{
		"", "-", "+", ".", "-.", "+.", "1.", "-1.", "..", "1..2", "1.2.3", ".5.", "--1", "+-1", "-+1", "++1", "1-", "1+1", ".-5", "1.-5", "1.+5",
		"123456789", "000000001", "-123456789", "000000000", "123456789.5", "1.1234567", ".0000000", "-.0000001",
		" 1", "1 ", " ", "- 1", "1 .5", "1. 5", "\t1", "1\n", "\r", "1e3", "0x1", "1,5", "1_0", "a", "1a", "a1", "1.a", "/", ":", "1:", "1/",
		"\x00", "1\x00", "\xff", "1.\xff", "\u0661", "\uff11", "1\u00a0", "NaN", "Inf", "-Inf",
		"16777216.000008", "-16777216.000008", "16777216.5", "16777217", "-16777217", "99999999", "-99999999", "99999999.999999",
		strings.Repeat("1", 100000), "1." + strings.Repeat("0", 100000), strings.Repeat(".", 1000),
	} {
		if n, ok := impl.ReadFixed(text); n != 0 || ok {
			t.Errorf("ReadFixed(%.40q) is %d, %v", text, n, ok)
		}
	}
}

func TestReadFixedIsNearest(t *testing.T) {
	for _, ahead := range []string{"", "0", "7", "00", "123", "16777215", "16777216"} {
		for f := range 1000 {
			behind := whole(f * 1001).String()
			behind = strings.Repeat("0", 6-len(behind)) + behind
			for _, sign := range []string{"", "+", "-"} {
				text := sign + ahead + "." + behind
				n, _ := new(big.Int).SetString(sign+ahead+behind, 10)
				top := new(big.Int).Mul(n, whole(2*impl.One))
				want := new(big.Int).Div(top.Add(top, whole(1000000)), whole(2000000))
				good := impl.GoodFixed(int(want.Int64()))
				if !good {
					want.SetInt64(0)
				}
				if got, ok := impl.ReadFixed(text); ok != good || got != int(want.Int64()) {
					t.Fatalf("ReadFixed(%q) is %d, %v, not %v, %v", text, got, ok, want, good)
				}
			}
		}
	}
}
