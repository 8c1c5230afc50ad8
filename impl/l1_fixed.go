package impl

import (
	"math/bits"
	"strings"
	"sync"
	"sync/atomic"
)

const MaxFixed = 1099511627776
const One = 65536
const Round = 4096

// The round is told by its first quarter alone, in sixteen stretches.
const (
	quarterRound = Round / 4
	halfRound    = Round / 2
	sineStretch  = 64
	sineCount    = quarterRound/sineStretch + 1
)

const million = 1000000

// The table is made once and read atomically, as the document's ways ask; it stands beside sineAt, by which every answer is worked out.
var sineOnce sync.Once
var sineTable [sineCount]atomic.Int64

func GoodFixed(x int) bool {
	return -MaxFixed <= x && x <= MaxFixed
}

func FixMul(a int, b int) int {
	if !GoodFixed(a) || !GoodFixed(b) {
		return 0
	}
	below := (a < 0) != (b < 0)
	add := uint64(One / 2)
	if below {
		add-- // sizes are rounded here: below 0 the greater of two as near has the lesser size
	}
	high, low := bits.Mul64(sizeWithoutSign(a), sizeWithoutSign(b))
	low, carry := bits.Add64(low, add, 0)
	size := uint64(MaxFixed)
	if high+carry == 0 { // with more than 64 bits the quotient is beyond MaxFixed anyway
		size = min(size, low/One)
	}
	if below {
		return -int(size)
	}
	return int(size)
}

func FixDiv(a int, b int) int {
	if !GoodFixed(a) || !GoodFixed(b) || b == 0 {
		return 0
	}
	return cutTo(nearest(a*One, b), -MaxFixed, MaxFixed)
}

func FixRoot(a int) int {
	if !GoodFixed(a) || a < 0 {
		return 0
	}
	return wholeRoot(a * One)
}

// SinOf answers what sineOf works out: the table's number is taken only where it is the same one, so no answer hangs on it.
func SinOf(angle int) int {
	sine := sineOf(angle)
	if kept := keptSine(angle); kept == sine {
		return kept
	}
	return sine
}

func CosOf(angle int) int {
	// The modulo comes first: the greatest ints have no room for a quarter more.
	return sineOf(modulo(angle, Round) + quarterRound)
}

func TurnOf(degrees int) int {
	if !GoodFixed(degrees) {
		return 0
	}
	return modulo(divDown(degrees*halfRound+90*One, 180*One), Round)
}

func ReadFixed(s string) (int, bool) {
	sign, s := signAhead(s)
	ahead, behind, point := strings.Cut(s, ".")
	if !allDigits(ahead) || !allDigits(behind) {
		return 0, false
	}
	if len(ahead) > 8 || len(behind) > 6 {
		return 0, false
	}
	if point && behind == "" || !point && ahead == "" {
		return 0, false
	}
	millionths := numberOf(behind + "000000"[len(behind):])
	// Whole numbers need no rounding: without them the products have room in an int.
	x := sign*numberOf(ahead)*One + nearest(sign*millionths*One, million)
	if !GoodFixed(x) {
		return 0, false
	}
	return x, true
}

// sineOf meets no variable: the other chapters turn by it.
func sineOf(angle int) int {
	angle = modulo(angle, Round)
	if angle >= halfRound {
		return -sineOfHalf(angle - halfRound)
	}
	return sineOfHalf(angle)
}

// sineOfHalf answers for angles in 0..halfRound; the second quarter mirrors the first.
func sineOfHalf(angle int) int {
	if angle > quarterRound {
		angle = halfRound - angle
	}
	q, r := angle/sineStretch, angle%sineStretch
	if r == 0 {
		return sineAt(q) // also at the quarter itself, behind which the table has no number
	}
	return (sineAt(q)*(sineStretch-r) + sineAt(q+1)*r + sineStretch/2) / sineStretch
}

func sineAt(k int) int {
	sines := [sineCount]int{
		0, 6424, 12785, 19024, 25080, 30893, 36410, 41576, 46341,
		50660, 54491, 57798, 60547, 62714, 64277, 65220, 65536,
	}
	return sines[k]
}

// keptSine reads the table at the stretch of the angle; beyond the first quarter it goes round.
func keptSine(angle int) int {
	sineOnce.Do(makeSines)
	return int(sineTable[modulo(angle, Round)/sineStretch%sineCount].Load())
}

func makeSines() {
	for k := range sineCount {
		sineTable[k].Store(int64(sineAt(k)))
	}
}

func sizeWithoutSign(x int) uint64 {
	if x < 0 {
		return uint64(-x)
	}
	return uint64(x)
}

func cutTo(x int, least int, greatest int) int {
	return max(least, min(x, greatest))
}

// divDown rounds towards the lesser number, where the language's own quotient goes towards 0; b is above 0.
func divDown(a int, b int) int {
	q := a / b
	if a%b < 0 {
		q--
	}
	return q
}

// modulo answers in 0..b - 1, where the language's own rest has the sign of a; b is above 0.
func modulo(a int, b int) int {
	r := a % b
	if r < 0 {
		r += b
	}
	return r
}

// nearest answers a / b, of two as near the greater; b is not 0, and twice a and b have room in an int.
func nearest(a int, b int) int {
	if b < 0 {
		a, b = -a, -b
	}
	return divDown(2*a+b, 2*b)
}

// wholeRoot goes bit by bit, since a float's root would be rounded; n is below 2^62.
func wholeRoot(n int) int {
	root := 0
	for bit := 1 << 30; bit > 0; bit /= 2 {
		if next := root + bit; next*next <= n {
			root = next
		}
	}
	return root
}

func signAhead(s string) (int, string) {
	if strings.HasPrefix(s, "-") {
		return -1, s[1:]
	}
	return 1, strings.TrimPrefix(s, "+")
}

func allDigits(s string) bool {
	for i := range len(s) {
		if s[i] < '0' || s[i] > '9' {
			return false
		}
	}
	return true
}

// numberOf takes digits alone, and so few of them that the number has room in an int.
func numberOf(digits string) int {
	n := 0
	for i := range len(digits) {
		n = n*10 + int(digits[i]-'0')
	}
	return n
}
