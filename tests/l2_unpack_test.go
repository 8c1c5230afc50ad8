package tests

import (
	"bytes"
	"compress/flate"
	"errors"
	"io"
	"slices"
	"strconv"
	"testing"

	"loop.example/g00137/impl"
)

// laid are bits, one an element, as they go into bytes from the lowest one on.
type laid struct {
	bits []int
}

func (l *laid) number(n, count int) {
	for k := range count {
		l.bits = append(l.bits, n>>k&1)
	}
}

func (l *laid) code(code, length int) {
	for k := length - 1; k >= 0; k-- {
		l.bits = append(l.bits, code>>k&1)
	}
}

// text lays bits as they are written; blanks are nothing.
func (l *laid) text(s string) {
	for _, r := range s {
		if r != ' ' {
			l.bits = append(l.bits, int(r-'0'))
		}
	}
}

func (l *laid) toByte() {
	for len(l.bits)%8 != 0 {
		l.bits = append(l.bits, 0)
	}
}

func (l *laid) bytes() []byte {
	out := make([]byte, (len(l.bits)+7)/8)
	for k, bit := range l.bits {
		out[k/8] |= byte(bit << (k % 8))
	}
	return out
}

func (l *laid) head(last, kind int) {
	l.number(last, 1)
	l.number(kind, 2)
}

func (l *laid) fixed(symbol int) {
	switch {
	case symbol < 144:
		l.code(48+symbol, 8)
	case symbol < 256:
		l.code(400+symbol-144, 9)
	case symbol < 280:
		l.code(symbol-256, 7)
	default:
		l.code(192+symbol-280, 8)
	}
}

// fixedLength goes by how many lengths each symbol has, four symbols alike from 265 on.
func (l *laid) fixedLength(length int) {
	if length == 258 {
		l.fixed(285)
		return
	}
	symbol, base, more := 257, 3, 0
	for length >= base+1<<more {
		base += 1 << more
		symbol++
		if symbol >= 265 {
			more = (symbol - 261) / 4
		}
	}
	l.fixed(symbol)
	l.number(length-base, more)
}

// fixedDistance goes by how many distances each symbol has, two symbols alike from 4 on.
func (l *laid) fixedDistance(distance int) {
	symbol, base, more := 0, 1, 0
	for distance >= base+1<<more {
		base += 1 << more
		symbol++
		if symbol >= 4 {
			more = (symbol - 2) / 2
		}
	}
	l.code(symbol, 5)
	l.number(distance-base, more)
}

func (l *laid) stored(last int, data []byte) {
	l.head(last, 0)
	l.toByte()
	l.number(len(data), 16)
	l.number(len(data)^65535, 16)
	for _, b := range data {
		l.number(int(b), 8)
	}
}

// lengthsPlaces is the order in which RFC 1951 tells the lengths of the code of lengths.
var lengthsPlaces = []int{16, 17, 18, 0, 8, 7, 9, 6, 10, 5, 11, 4, 12, 3, 13, 2, 14, 1, 15}

// plainRow are the lengths of a code of lengths in which all of 0..15 have four bits; so each length is its own code.
func plainRow() []int {
	row := make([]int, 19)
	for k := range 16 {
		row[k] = 4
	}
	return row
}

// wideRow gives all nineteen a code: thirteen with four bits, six with five, which makes them complete.
func wideRow() []int {
	row := make([]int, 19)
	for k := range row {
		row[k] = 4
	}
	for k := 13; k < 19; k++ {
		row[k] = 5
	}
	return row
}

// codesAsTold answers codes by length and then by number, each one more than the one ahead, at its length.
func codesAsTold(row []int) []int {
	codes := make([]int, len(row))
	next := 0
	for length := 1; length <= 15; length++ {
		for k, other := range row {
			if other == length {
				codes[k] = next >> (15 - length)
				next += 1 << (15 - length)
			}
		}
	}
	return codes
}

// dynamicHead lays how many lengths there are, and the code that tells them.
func (l *laid) dynamicHead(last, firsts, seconds int, row []int) {
	l.head(last, 2)
	l.number(firsts-257, 5)
	l.number(seconds-1, 5)
	l.number(15, 4)
	for _, place := range lengthsPlaces {
		l.number(row[place], 3)
	}
}

// dynamicPlain lays a block of dynamic codes up to its data; each length is told by itself.
func (l *laid) dynamicPlain(last int, firsts, seconds []int) {
	l.dynamicHead(last, len(firsts), len(seconds), plainRow())
	for _, length := range slices.Concat(firsts, seconds) {
		l.code(length, 4)
	}
}

func rowWith(count int, pairs ...int) []int {
	row := make([]int, count)
	for k := 0; k < len(pairs); k += 2 {
		row[pairs[k]] = pairs[k+1]
	}
	return row
}

// lay answers what the steps lay.
func lay(steps ...func(*laid)) []byte {
	var l laid
	for _, step := range steps {
		step(&l)
	}
	return l.bytes()
}

func checkCode(t *testing.T, name string, packed []byte, want int) {
	t.Helper()
	out, took, code := impl.Unpack(packed)
	if code != want || took != 0 || len(out) != 0 {
		t.Errorf("%s: %d bytes, %d, code %d, not code %d", name, len(out), took, code, want)
	}
}

func checkData(t *testing.T, name string, packed []byte, want []byte) {
	t.Helper()
	checkUnpacks(t, name, packed, want, len(packed))
}

// deflated is what another packer makes, with a new block after each part.
func deflated(t *testing.T, level int, parts ...[]byte) []byte {
	t.Helper()
	var out bytes.Buffer
	w, err := flate.NewWriter(&out, level)
	if err != nil {
		t.Fatal(err)
	}
	for k, part := range parts {
		if _, err := w.Write(part); err != nil {
			t.Fatal(err)
		}
		if k+1 < len(parts) {
			w.Flush()
		}
	}
	w.Close()
	return out.Bytes()
}

func TestUnpackReadsWhatOthersPack(t *testing.T) {
	dynamic := 0
	for name, data := range dataOfAllKinds() {
		for _, level := range []int{flate.NoCompression, flate.BestSpeed, 6, flate.BestCompression, flate.HuffmanOnly} {
			packed := deflated(t, level, data)
			checkUnpacks(t, name, packed, data, len(packed))
			if packed[0]>>1&3 == 2 {
				dynamic++
			}
			half := len(data) / 2
			parts := deflated(t, level, data[:half], data[half:])
			checkUnpacks(t, name+" in parts", parts, data, len(parts))
		}
	}
	if dynamic < 20 {
		t.Error("too few blocks of dynamic codes:", dynamic)
	}
}

func TestUnpackShortWhereverBitsEnd(t *testing.T) {
	d := dice(77)
	text := d.bytes(300, 'a', 9)
	stored, _ := impl.PackStoredOf(text)
	fixed, _ := impl.PackFixedOf(text)
	for name, packed := range map[string][]byte{
		"stored": stored, "fixed": fixed, "dynamic": deflated(t, 9, text), "bytes alone": deflated(t, flate.HuffmanOnly, text),
		"parts": deflated(t, 6, text[:100], text[100:]),
	} {
		for n := range packed {
			checkCode(t, name+" cut at "+strconv.Itoa(n), packed[:n], impl.PackShort)
		}
	}
	checkCode(t, "nil", nil, impl.PackShort)
	checkCode(t, "a block that is not the last one", lay(func(l *laid) { l.stored(0, []byte("ab")) }), impl.PackShort)
}

// Whatever the bits, another reader says the same, as far as it asks for the same.
func TestUnpackOfAnyBits(t *testing.T) {
	d := dice(31)
	var all [][]byte
	for _, data := range dataOfAllKinds() {
		if len(data) > 0 && len(data) < 400 {
			fixed, _ := impl.PackFixedOf(data)
			all = append(all, fixed, deflated(t, 9, data), deflated(t, 6, data, data))
		}
	}
	codes := map[int]int{}
	for range 40000 {
		packed := slices.Clone(all[d.below(len(all))])
		for range 1 + d.below(3) {
			packed[d.below(min(len(packed), 1+d.below(80)))] ^= 1 << d.below(8)
		}
		out, took, code := impl.Unpack(packed)
		codes[code]++
		from := bytes.NewReader(packed)
		other, err := io.ReadAll(flate.NewReader(from))
		if code == impl.PackOk && (err != nil || !bytes.Equal(out, other) || took != len(packed)-from.Len()) {
			t.Fatalf("%v: unpacked, but not by another reader: %v", packed, err)
		}
		if code != impl.PackOk && (len(out) != 0 || took != 0) {
			t.Fatalf("%v: code %d with %d bytes and %d", packed, code, len(out), took)
		}
		// The other reader lets some codes pass that are not complete, and any many bytes.
		if err == nil && code != impl.PackOk && code != impl.PackCodes && code != impl.PackMuch {
			t.Fatalf("%v: code %d, but another reader reads it", packed, code)
		}
		if code == impl.PackShort && !errors.Is(err, io.ErrUnexpectedEOF) {
			t.Fatalf("%v: short, but not for another reader: %v", packed, err)
		}
	}
	for _, code := range []int{impl.PackOk, impl.PackShort, impl.PackKind, impl.PackStored, impl.PackCodes, impl.PackSymbol, impl.PackFar, impl.PackMuch} {
		if codes[code] == 0 {
			t.Error("no bits have the code", code)
		}
	}
}

func TestUnpackLong(t *testing.T) {
	packed, _ := impl.PackFixedOf([]byte("abc"))
	long := append(packed, make([]byte, 2*impl.MaxData+1-len(packed))...)
	checkCode(t, "one more than 2 MaxData", long, impl.PackLong)
	checkCode(t, "one more, of a wrong kind", bytes.Repeat([]byte{7}, 2*impl.MaxData+1), impl.PackLong)
	checkUnpacks(t, "2 MaxData", long[:2*impl.MaxData], []byte("abc"), len(packed))
	checkCode(t, "2 MaxData, of a wrong kind", bytes.Repeat([]byte{7}, 2*impl.MaxData), impl.PackKind)
}

func TestUnpackKind(t *testing.T) {
	checkCode(t, "the last one", []byte{7}, impl.PackKind)
	checkCode(t, "not the last one", []byte{6}, impl.PackKind)
	checkCode(t, "the second one", lay(func(l *laid) { l.stored(0, []byte("ab")); l.head(1, 3) }), impl.PackKind)
	checkCode(t, "ahead of a wrong stored block", []byte{0b110, 1, 2, 3, 4}, impl.PackKind)
}

func TestUnpackStored(t *testing.T) {
	checkData(t, "none", []byte{1, 0, 0, 255, 255}, nil)
	checkData(t, "bits ahead of the whole byte are passed over", []byte{0b11111_001, 1, 0, 254, 255, 'x'}, []byte("x"))
	checkData(t, "two", lay(func(l *laid) { l.stored(0, []byte("ab")); l.stored(1, []byte("cd")) }), []byte("abcd"))
	for _, wrong := range [][]byte{
		{1, 1, 0, 255, 255, 'x'}, {1, 1, 0, 254, 254, 'x'}, {1, 1, 0, 1, 0, 'x'}, {1, 0, 0, 0, 0}, {1, 1, 0, 126, 255, 'x'},
		{1, 1, 0, 255, 255},                // its data lack too, but behind
		{1, 255, 255, 255, 255, 'x'},       // and are too many, but behind
		{0, 0, 0, 255, 255, 0, 0, 0, 0, 0}, // the second block
	} {
		checkCode(t, "a wrong second number", wrong, impl.PackStored)
	}
	for n := range 5 {
		checkCode(t, "cut within the numbers", []byte{1, 1, 0, 255, 255}[:n], impl.PackShort)
	}
	checkCode(t, "data lack", []byte{1, 2, 0, 253, 255, 'x'}, impl.PackShort)
	checkCode(t, "a wrong number behind bits that lack", []byte{1, 1, 0, 255}, impl.PackShort)
}

func TestUnpackMuch(t *testing.T) {
	full := bytes.Repeat([]byte("q"), impl.MaxData)
	half := full[:impl.MaxData/2]
	checkData(t, "just MaxData", lay(func(l *laid) { l.stored(1, full) }), full)
	checkData(t, "just MaxData, in two", lay(func(l *laid) { l.stored(0, half); l.stored(1, half) }), full)
	checkData(t, "just MaxData, and none", lay(func(l *laid) { l.stored(0, full); l.stored(1, nil) }), full)
	checkCode(t, "one more stored", lay(func(l *laid) { l.stored(1, append(full, 'q')) }), impl.PackMuch)
	checkCode(t, "one more in two", lay(func(l *laid) { l.stored(0, half); l.stored(1, append(half, 'q')) }), impl.PackMuch)
	checkCode(t, "once the length is known", []byte{1, 0x71, 0x17, 0x8e, 0xe8}, impl.PackMuch)
	checkCode(t, "the greatest length", []byte{1, 255, 255, 0, 0}, impl.PackMuch)
	checkCode(t, "one less, of which no data are there", []byte{1, 0x70, 0x17, 0x8f, 0xe8}, impl.PackShort)
	behind := func(symbols ...int) []byte {
		return lay(func(l *laid) {
			l.stored(0, full)
			l.head(1, 1)
			for _, symbol := range symbols {
				l.fixed(symbol)
			}
		})
	}
	checkData(t, "the end behind MaxData", behind(256), full)
	checkCode(t, "a byte behind MaxData", behind('q', 256), impl.PackMuch)
	checkCode(t, "a byte behind MaxData, then a wrong symbol", behind('q', 287), impl.PackMuch)
	checkCode(t, "a wrong symbol behind MaxData", behind(287, 'q'), impl.PackSymbol)
}

func TestUnpackMuchByLengths(t *testing.T) {
	stretch := func(ahead, length, distance int) []byte {
		return lay(func(l *laid) {
			l.stored(0, bytes.Repeat([]byte("q"), ahead))
			l.head(1, 1)
			l.fixedLength(length)
			l.fixedDistance(distance)
			l.fixed(256)
		})
	}
	full := bytes.Repeat([]byte("q"), impl.MaxData)
	checkData(t, "a length up to MaxData", stretch(impl.MaxData-258, 258, 1), full)
	checkData(t, "a length up to MaxData", stretch(impl.MaxData-3, 3, 5000), full)
	checkCode(t, "a length beyond MaxData", stretch(impl.MaxData-257, 258, 1), impl.PackMuch)
	checkCode(t, "a length beyond MaxData", stretch(impl.MaxData-2, 3, 1), impl.PackMuch)
	checkCode(t, "a length beyond MaxData, and too far", stretch(impl.MaxData-2, 3, impl.MaxData-1), impl.PackFar)
	checkCode(t, "a length behind MaxData, all the way back", stretch(impl.MaxData, 3, impl.MaxData), impl.PackMuch)
}

func TestUnpackFar(t *testing.T) {
	for _, ahead := range []int{0, 1, 2, 3, 5, 30, 300, 3000, 5990} {
		data := make([]byte, ahead)
		d := dice(ahead + 1)
		copy(data, d.bytes(ahead, 0, 256))
		at := func(distance int) []byte {
			return lay(func(l *laid) {
				l.stored(0, data)
				l.head(1, 1)
				l.fixedLength(3)
				l.fixedDistance(distance)
				l.fixed(256)
			})
		}
		if ahead > 0 {
			want := slices.Clone(data)
			for k := range 3 {
				want = append(want, want[k])
			}
			checkData(t, "just at the beginning", at(ahead), want)
		}
		checkCode(t, "just beyond the beginning", at(ahead+1), impl.PackFar)
		checkCode(t, "as far as can be told", at(32768), impl.PackFar)
	}
	checkCode(t, "far, and then nothing", lay(func(l *laid) { l.text("1 10 0000001 00000"); l.toByte() }), impl.PackFar)
}

func TestUnpackSymbol(t *testing.T) {
	for _, symbol := range []int{286, 287} {
		checkCode(t, "symbol "+strconv.Itoa(symbol), lay(func(l *laid) { l.head(1, 1); l.fixed('x'); l.fixed(symbol) }), impl.PackSymbol)
	}
	for _, distance := range []int{30, 31} {
		checkCode(t, "distance "+strconv.Itoa(distance), lay(func(l *laid) {
			l.head(1, 1)
			l.fixed('x')
			l.fixedLength(3)
			l.code(distance, 5)
		}), impl.PackSymbol)
	}
	checkCode(t, "distance 29 lacks bits", lay(func(l *laid) { l.head(1, 1); l.fixed('x'); l.fixedLength(3); l.code(29, 5) }), impl.PackShort)
	checkCode(t, "distance 29 is too far", lay(func(l *laid) { l.head(1, 1); l.fixed('x'); l.fixedLength(3); l.code(29, 5); l.number(0, 13) }), impl.PackFar)
}

func TestUnpackLength258(t *testing.T) {
	want := bytes.Repeat([]byte("x"), 259)
	for name, length := range map[string]func(*laid){
		"285":         func(l *laid) { l.fixed(285) },
		"284 with 31": func(l *laid) { l.fixed(284); l.number(31, 5) },
	} {
		checkData(t, name, lay(func(l *laid) { l.head(1, 1); l.fixed('x') }, length, func(l *laid) { l.fixedDistance(1); l.fixed(256) }), want)
	}
	checkData(t, "284 with 30", lay(func(l *laid) {
		l.head(1, 1)
		l.fixed('x')
		l.fixed(284)
		l.number(30, 5)
		l.fixedDistance(1)
		l.fixed(256)
	}), want[:258])
}

func TestUnpackDynamicNumbersOfLengths(t *testing.T) {
	good := func(firsts, seconds int) []byte {
		return lay(func(l *laid) {
			l.dynamicPlain(1, rowWith(firsts, 'x', 1, 256, 1), rowWith(seconds, 0, 1))
			l.code(0, 1)
			l.code(1, 1)
		})
	}
	checkData(t, "fewest lengths", good(257, 1), []byte("x"))
	checkData(t, "most lengths", good(286, 30), []byte("x"))
	checkCode(t, "287 of the first kind", good(287, 1), impl.PackCodes)
	checkCode(t, "288 of the first kind", good(288, 1), impl.PackCodes)
	checkCode(t, "31 of the second kind", good(257, 31), impl.PackCodes)
	checkCode(t, "32 of the second kind", good(257, 32), impl.PackCodes)
	checkCode(t, "287, and then nothing", []byte{0b11110_10_1}, impl.PackCodes)
	checkCode(t, "286, and then nothing", []byte{0b11101_10_1}, impl.PackShort)
	checkCode(t, "31, and then nothing", []byte{0b00000_10_1, 0b11110}, impl.PackCodes)
	checkCode(t, "30, and then nothing", []byte{0b00000_10_1, 0b11101}, impl.PackShort)
}

func TestUnpackCodeOfLengths(t *testing.T) {
	withRow := func(row []int) []byte {
		return lay(func(l *laid) { l.dynamicHead(1, 257, 1, row); l.number(0, 999) })
	}
	none := make([]int, 19)
	checkCode(t, "none", withRow(none), impl.PackCodes)
	checkCode(t, "one", withRow(rowWith(19, 8, 1)), impl.PackCodes)
	checkCode(t, "too few", withRow(rowWith(19, 8, 1, 1, 2)), impl.PackCodes)
	checkCode(t, "too many", withRow(rowWith(19, 8, 1, 1, 1, 2, 1)), impl.PackCodes)
	checkCode(t, "too many with seven bits", withRow(rowWith(19, 8, 1, 1, 1, 2, 7)), impl.PackCodes)
	// With four lengths told, what is not told has none: 18 with one bit, 0 with one.
	few := func(l *laid) {
		l.head(1, 2)
		l.number(0, 5)
		l.number(0, 5)
		l.number(0, 4)
		for _, length := range []int{0, 0, 1, 1} {
			l.number(length, 3)
		}
	}
	checkCode(t, "four lengths alone, and so no code 256", lay(few, func(l *laid) {
		l.text("1 1111111") // 138 noughts
		l.text("1 1001011") // 11 and 105, and then two more
		l.text("0 0 0 0")
	}), impl.PackCodes)
	checkCode(t, "four lengths alone, and then nothing", lay(few), impl.PackShort)
}

func TestUnpackRepeats(t *testing.T) {
	row := wideRow()
	codes := codesAsTold(row)
	told := func(firsts, seconds int, pairs ...int) []byte {
		return lay(func(l *laid) {
			l.dynamicHead(1, firsts, seconds, row)
			for k := 0; k < len(pairs); k += 2 {
				l.code(codes[pairs[k]], row[pairs[k]])
				switch pairs[k] {
				case 16:
					l.number(pairs[k+1], 2)
				case 17:
					l.number(pairs[k+1], 3)
				case 18:
					l.number(pairs[k+1], 7)
				}
			}
			l.number(0, 3)
			l.code(1, 1)
			l.number(-1, 40)
		})
	}
	// 120 noughts, the length 1 of 120, and 135 noughts; with the length 1 of 256 the codes are the bits 0 and 1.
	behindX := func(more ...int) []int { return append([]int{18, 109, 1, 0, 18, 124}, more...) }
	for name, more := range map[string][]int{
		"each by itself":             {1, 0, 0, 0, 0, 0, 0, 0, 0, 0},
		"three noughts and one":      {1, 0, 17, 0, 0, 0},
		"four noughts":               {1, 0, 17, 1},
		"a nought and three like it": {1, 0, 0, 0, 16, 0},
	} {
		out, _, code := impl.Unpack(told(257, 4, behindX(more...)...))
		if code != impl.PackOk || string(out) != "xxx" {
			t.Errorf("%s: %q, %d", name, out, code)
		}
	}
	for name, packed := range map[string][]byte{
		"repeated where there is none ahead":     told(257, 4, 16, 0, 18, 109, 1, 0),
		"four distances of the length 1":         told(257, 4, behindX(1, 0, 16, 1)...),
		"one more than is told, by 16":           told(257, 2, behindX(1, 0, 16, 0)...),
		"one more than is told, by 17":           told(257, 2, behindX(1, 0, 17, 0)...),
		"many more than are told, by 18":         told(257, 2, behindX(1, 0, 18, 127)...),
		"more than all by noughts":               told(257, 1, 18, 127, 18, 110),
		"noughts alone: the code 256 has none":   told(257, 1, 18, 127, 18, 109),
		"the code 256 has none, else complete":   told(258, 1, 1, 0, 1, 0, 18, 127, 18, 108),
		"the code 256 has none, more behind":     told(258, 1, 1, 0, 18, 127, 18, 107, 1, 0, 0, 0),
		"the first kind is one code alone":       told(257, 1, 18, 127, 18, 107, 1, 0, 0, 0),
		"the first kind is not complete":         told(257, 1, 2, 0, 18, 127, 18, 106, 1, 0, 0, 0),
		"the first kind is more than complete":   told(257, 1, 1, 0, 1, 0, 18, 127, 18, 105, 1, 0, 0, 0),
		"the second kind is one of the length 2": told(257, 1, behindX(1, 0, 2, 0)...),
		"the second kind is one of the length 9": told(257, 1, behindX(1, 0, 9, 0)...),
		"the second kind is not complete":        told(257, 2, behindX(1, 0, 1, 0, 2, 0)...),
		"the second kind is more than complete":  told(257, 3, behindX(1, 0, 1, 0, 1, 0, 15, 0)...),
		"the second kind is two of the length 2": told(257, 2, behindX(1, 0, 2, 0, 2, 0)...),
	} {
		checkCode(t, name, packed, impl.PackCodes)
	}
}

func TestUnpackRepeatGoesOnFromTheFirstKind(t *testing.T) {
	row := wideRow()
	codes := codesAsTold(row)
	// 241 noughts, then 32 lengths 4: sixteen of the first kind, of which 256 is the last one, and sixteen distances.
	packed := lay(func(l *laid) {
		l.dynamicHead(1, 257, 16, row)
		put := func(symbol, more, bits int) { l.code(codes[symbol], row[symbol]); l.number(more, bits) }
		put(18, 127, 7)
		put(18, 92, 7)
		put(4, 0, 0)
		for range 5 {
			put(16, 3, 2)
		}
		put(4, 0, 0)
		l.code(0, 4)
		l.code(14, 4)
		l.code(15, 4)
	})
	checkData(t, "241 and 255", packed, []byte{241, 255})
}

func TestUnpackFewDistances(t *testing.T) {
	// Symbols: x is 0, the end 10, the length 3 is 11.
	firsts := rowWith(258, 'x', 1, 256, 2, 257, 2)
	told := func(seconds []int, bits string) []byte {
		return lay(func(l *laid) { l.dynamicPlain(1, firsts, seconds); l.text(bits) })
	}
	one, none := rowWith(3, 0, 1), rowWith(3)
	checkData(t, "one distance, used", told(one, "0 11 0 10"), []byte("xxxx"))
	checkData(t, "one distance that is not the first one", told(rowWith(5, 4, 1), "0 0 0 0 0 11 0 0 10"), []byte("xxxxxxxx"))
	checkData(t, "one distance, not used", told(one, "0 10"), []byte("x"))
	checkData(t, "no distance, not used", told(none, "0 10"), []byte("x"))
	fifteen := "0 11 111111111111111 000000000"
	checkCode(t, "one distance, another bit", told(one, fifteen), impl.PackSymbol)
	checkCode(t, "no distance, a length", told(none, fifteen), impl.PackSymbol)
	checkCode(t, "no distance, a length and noughts", told(none, "0 11 000000000000000 000000000"), impl.PackSymbol)
	checkCode(t, "one distance that is too far", told(rowWith(5, 4, 1), "0 11 0 0 10"), impl.PackFar)
	for name, seconds := range map[string][]int{"one": one, "none": none} {
		// How many bits stand behind the length is counted from a whole byte back, so that none is added there.
		for n := range 24 {
			var l laid
			l.dynamicPlain(1, firsts, seconds)
			for (len(l.bits)+2+n)%8 != 0 {
				l.text("0")
			}
			l.text("11")
			for range n {
				l.text("1")
			}
			want := impl.PackSymbol
			if n < 15 {
				want = impl.PackShort
			}
			checkCode(t, name+" with "+strconv.Itoa(n)+" bits", l.bytes(), want)
		}
	}
}

func TestUnpackFirstFaultCounts(t *testing.T) {
	x := func(l *laid) { l.head(1, 1); l.fixed('x') }
	checkCode(t, "far ahead of a symbol", lay(x, func(l *laid) { l.fixedLength(3); l.fixedDistance(2); l.fixed(287) }), impl.PackFar)
	checkCode(t, "a symbol ahead of far", lay(x, func(l *laid) { l.fixed(286); l.fixedLength(3); l.fixedDistance(2) }), impl.PackSymbol)
	checkCode(t, "a symbol ahead of a kind", lay(func(l *laid) { l.head(0, 1); l.fixed(287); l.fixed(256); l.head(1, 3) }), impl.PackSymbol)
	checkCode(t, "a kind ahead of a symbol", lay(func(l *laid) { l.head(0, 1); l.fixed(256); l.head(1, 3); l.fixed(287) }), impl.PackKind)
	checkCode(t, "codes ahead of far", lay(func(l *laid) {
		l.dynamicPlain(1, rowWith(258, 'x', 1, 257, 1), rowWith(1, 0, 1))
		l.text("1 0")
	}), impl.PackCodes)
	checkCode(t, "the code of lengths ahead of bits that lack", lay(func(l *laid) { l.dynamicHead(1, 257, 1, make([]int, 19)) }), impl.PackCodes)
	checkCode(t, "bits that lack ahead of the code of lengths", lay(func(l *laid) { l.head(1, 2); l.number(0, 13) }), impl.PackShort)
	// Ten lengths are told, so that the bits end with a byte: 16 has the code 1, and what it adds lacks.
	repeat := lay(func(l *laid) { l.head(1, 2); l.number(0, 10); l.number(6, 4) }, func(l *laid) {
		for k := range 10 {
			l.number(rowWith(19, 16, 1, 0, 1)[lengthsPlaces[k]], 3)
		}
		l.text("1")
	})
	if len(repeat) != 6 {
		t.Error("the bits do not end with a byte")
	}
	checkCode(t, "none ahead to repeat, and bits lack behind", repeat, impl.PackCodes)
}
