package tests

import (
	"bytes"
	"hash/adler32"
	"hash/crc32"
	"image"
	"image/color"
	"image/png"
	"math"
	"slices"
	"strconv"
	"testing"

	"loop.example/g00137/impl"
)

const (
	mostRow  = 4 * impl.MaxSide
	mostRows = (mostRow + 1) * impl.MaxSide
)

// badKinds are no kinds of filters; some would be one if only their low bits were read.
var badKinds = []int{-1, -2, -5, 5, 6, 255, 256, 257, 1 << 32, math.MinInt, math.MaxInt}

// badSides are no sides of pictures; some would be one if only their low bits were read.
var badSides = []int{0, -1, -2, -impl.MaxSide, impl.MaxSide + 1, 100, 257, 1 << 16, 1<<32 + 1, 1 << 60, 1 << 62, math.MinInt, math.MaxInt}

func TestConstantsOfPictures(t *testing.T) {
	got := []int{impl.PngOk, impl.PngLong, impl.PngMark, impl.PngShort, impl.PngSum, impl.PngHead, impl.PngChunk, impl.PngData, impl.PngFilter}
	if impl.MaxSide != 36 || !slices.Equal(got, []int{0, 1, 2, 3, 4, 5, 6, 7, 8}) {
		t.Error(impl.MaxSide, got)
	}
}

func TestSumsOfKnownBytes(t *testing.T) {
	for text, want := range map[string][2]uint32{
		"":          {1, 0},
		"\x00":      {0x00010001, 0xd202ef8d},
		"a":         {0x00620062, 0xe8b7be43},
		"\xff":      {0x01000100, 0xff000000},
		"abc":       {0x024d0127, 0x352441c2},
		"123456789": {0x091e01de, 0xcbf43926},
		"IEND":      {adler32.Checksum([]byte("IEND")), 0xae426082},
	} {
		b := []byte(text)
		if a, c := impl.Adler32(b), impl.Crc32(b); a != want[0] || c != want[1] {
			t.Errorf("%q: %x, %x, not %x", text, a, c, want)
		}
	}
	if impl.Adler32(nil) != 1 || impl.Crc32(nil) != 0 {
		t.Error(impl.Adler32(nil), impl.Crc32(nil))
	}
}

func TestSumsOfManyBytes(t *testing.T) {
	all := dataOfAllKinds()
	d := dice(31)
	all["all high"] = bytes.Repeat([]byte{255}, 300000) // sums go round many times
	all["many"] = d.bytes(200001, 0, 256)
	for n := range 60 {
		all["high "+strconv.Itoa(n)] = bytes.Repeat([]byte{255}, 230+n) // the first of both sums goes round at 257
	}
	for name, b := range all {
		if got, want := impl.Adler32(b), adler32.Checksum(b); got != want {
			t.Errorf("Adler32 of %s is %x, not %x", name, got, want)
		}
		if got, want := impl.Crc32(b), crc32.ChecksumIEEE(b); got != want {
			t.Errorf("Crc32 of %s is %x, not %x", name, got, want)
		}
	}
}

// rowPair is a row with the one above it.
type rowPair struct {
	row, above []byte
}

func somePairs() []rowPair {
	var out []rowPair
	d := dice(77)
	for _, wide := range []int{1, 2, 3, 5, 17, impl.MaxSide - 1, impl.MaxSide} {
		n := 4 * wide
		for _, kinds := range []int{1, 2, 7, 256} {
			for range 6 {
				row, above := d.bytes(n, 0, kinds), d.bytes(n, d.below(256), kinds)
				out = append(out, rowPair{row, above}, rowPair{row, make([]byte, n)}, rowPair{row, row})
			}
		}
		out = append(out, rowPair{risingBytes(0, n), make([]byte, n)}, rowPair{risingBytes(250, n), risingBytes(3, n)},
			rowPair{bytes.Repeat([]byte{255}, n), bytes.Repeat([]byte{255}, n)})
	}
	return out
}

// guessAsTold is the text of the PNG specification, chapter 9, without any rounding but the average's.
func guessAsTold(kind int, a, b, c int) int {
	switch kind {
	case 1:
		return a
	case 2:
		return b
	case 3:
		return (a + b) >> 1
	case 4:
		p := a + b - c
		off := func(x int) int { return max(p-x, x-p) }
		best := a
		if off(b) < off(best) {
			best = b
		}
		if off(c) < off(best) {
			best = c
		}
		return best
	}
	return 0
}

func filterAsTold(kind int, p rowPair) []byte {
	out := make([]byte, len(p.row))
	for k, x := range p.row {
		a, c := 0, 0
		if k >= 4 {
			a, c = int(p.row[k-4]), int(p.above[k-4])
		}
		out[k] = byte(int(x) - guessAsTold(kind, a, int(p.above[k]), c))
	}
	return out
}

func TestRowsComeBackFromTheirFilters(t *testing.T) {
	for _, p := range somePairs() {
		for kind := range 5 {
			filtered, ok := impl.FilterRow(kind, p.row, p.above)
			if !ok || !bytes.Equal(filtered, filterAsTold(kind, p)) {
				t.Fatalf("FilterRow(%d, %v, %v) is %v, %t", kind, p.row, p.above, filtered, ok)
			}
			back, ok := impl.UnfilterRow(kind, filtered, p.above)
			if !ok || !bytes.Equal(back, p.row) {
				t.Fatalf("UnfilterRow(%d, %v, %v) is %v, %t, not %v", kind, filtered, p.above, back, ok, p.row)
			}
			other, ok := impl.UnfilterRow(kind, p.row, p.above)
			if !ok || !bytes.Equal(filterAsTold(kind, rowPair{other, p.above}), p.row) {
				t.Fatalf("UnfilterRow(%d, %v, %v) is %v, %t", kind, p.row, p.above, other, ok)
			}
		}
	}
}

func TestFilterRowByHand(t *testing.T) {
	row := []byte{10, 20, 255, 0, 13, 18, 1, 0}
	above := []byte{4, 30, 255, 1, 20, 25, 3, 255}
	for kind, want := range [][]byte{
		{10, 20, 255, 0, 13, 18, 1, 0},
		{10, 20, 255, 0, 3, 254, 2, 0},
		{6, 246, 0, 255, 249, 249, 254, 1},
		{8, 5, 128, 0, 254, 252, 128, 129},
		{6, 246, 0, 255, 249, 254, 254, 1},
	} {
		if got, ok := impl.FilterRow(kind, row, above); !ok || !bytes.Equal(got, want) {
			t.Errorf("kind %d: %v, not %v", kind, got, want)
		}
		if got, ok := impl.UnfilterRow(kind, want, above); !ok || !bytes.Equal(got, row) {
			t.Errorf("kind %d back: %v, not %v", kind, got, row)
		}
	}
}

func TestPaethOfSeveralAsNear(t *testing.T) {
	for _, c := range []struct {
		left, up, corner, want byte
	}{
		{7, 7, 7, 7},
		{10, 20, 15, 15}, // p is the corner itself
		{10, 14, 11, 14}, // p is 13: up is nearest
		{14, 10, 11, 14}, // p is 13: left is nearest
		{20, 10, 16, 16}, // p is 14: the corner is nearest
		{10, 20, 14, 14}, // p is 16: the corner is nearest
		{8, 8, 4, 8},     // p is 12: left and up are as near
		{10, 4, 6, 10},   // p is 8: left and corner are as near, 10 counts
		{4, 10, 6, 10},   // p is 8: up and corner are as near, 10 counts
		{0, 255, 128, 128}, {255, 255, 0, 255}, {0, 0, 255, 0}, {255, 0, 0, 255}, {0, 255, 0, 255},
	} {
		row := []byte{c.left, c.left, c.left, c.left, 200, 200, 200, 200}
		above := []byte{c.corner, c.corner, c.corner, c.corner, c.up, c.up, c.up, c.up}
		got, ok := impl.FilterRow(4, row, above)
		if !ok || 200-got[7] != c.want || 200-got[4] != c.want {
			t.Errorf("left %d, up %d, corner %d: %d, not %d", c.left, c.up, c.corner, 200-got[7], c.want)
		}
	}
}

// bestAsTold answers all kinds that have the least sum.
func bestAsTold(p rowPair) []int {
	var sums [5]int
	for kind := range sums {
		for _, x := range filterAsTold(kind, p) {
			n := int(x)
			if n > 127 {
				n -= 256
			}
			sums[kind] += max(n, -n)
		}
	}
	var out []int
	for kind, sum := range sums {
		if sum == slices.Min(sums[:]) {
			out = append(out, kind)
		}
	}
	return out
}

func TestBestFilterHasTheLeastSum(t *testing.T) {
	var first [5]int
	several := 0
	d := dice(12)
	pairs := somePairs()
	for range 3000 { // steps from what is near make each kind the best one at times
		n := 4 * (1 + d.below(4))
		row, above := d.bytes(n, 0, 256), d.bytes(n, 0, 256)
		kind, spread := d.below(5), 1+d.below(40)
		off := d.bytes(n, 256-spread/2, spread)
		row, _ = impl.UnfilterRow(kind, off, above)
		pairs = append(pairs, rowPair{row, above})
	}
	for _, p := range pairs {
		want := bestAsTold(p)
		if got, ok := impl.BestFilter(p.row, p.above); !ok || got != want[0] {
			t.Fatalf("BestFilter(%v, %v) is %d, %t, not %d", p.row, p.above, got, ok, want[0])
		}
		first[want[0]]++
		if len(want) > 1 {
			several++
		}
	}
	if slices.Min(first[:]) < 20 || several < 20 {
		t.Error("the rows have too few of a kind, or with several:", first, several)
	}
}

func TestBestFilterByHand(t *testing.T) {
	four := func(x ...byte) []byte { return slices.Repeat(x, 4) }
	for _, c := range []struct {
		row, above []byte
		want       int
	}{
		{four(0), four(0), 0},
		{four(9), four(0), 0},                                   // all kinds leave 9
		{four(9), four(9), 2},                                   // up and Paeth leave nothing
		{four(255), four(254), 0},                               // 255 has the size 1, as the 1 that up leaves
		{four(128), four(1), 2},                                 // 128 has the size 128, the 127 that up leaves is less
		{four(127), four(255), 3},                               // the average leaves nothing
		{four(100), four(200), 3},                               // the average is just it
		{slices.Concat(four(50), four(50)), make([]byte, 8), 1}, // sub and Paeth leave 50 and 0
		{slices.Concat(four(10), four(30)), slices.Concat(four(10), four(30)), 2},
		{slices.Concat(four(90), four(90)), slices.Concat(four(90), four(10)), 2},                         // up and Paeth leave 0 and 80, the average 45 and 40
		{slices.Concat(four(100), four(100), four(200)), slices.Concat(four(90), four(90), four(190)), 4}, // up leaves 10 each, Paeth 10, 0 and 10
	} {
		p := rowPair{c.row, c.above}
		if want := bestAsTold(p); want[0] != c.want {
			t.Errorf("the case %v is wrong: %v, not %d", p, want, c.want)
		}
		if got, ok := impl.BestFilter(c.row, c.above); !ok || got != c.want {
			t.Errorf("BestFilter(%v, %v) is %d, %t, not %d", c.row, c.above, got, ok, c.want)
		}
	}
}

func TestFiltersOfOtherKinds(t *testing.T) {
	for _, p := range somePairs()[:20] {
		for _, kind := range badKinds {
			checkNoRow(t, kind, p.row, p.above)
		}
	}
}

func checkNoRow(t *testing.T, kind int, row, above []byte) {
	t.Helper()
	if got, ok := impl.FilterRow(kind, row, above); ok || len(got) != 0 {
		t.Errorf("FilterRow of kind %d, %d and %d bytes: %v, %t", kind, len(row), len(above), got, ok)
	}
	if got, ok := impl.UnfilterRow(kind, row, above); ok || len(got) != 0 {
		t.Errorf("UnfilterRow of kind %d, %d and %d bytes: %v, %t", kind, len(row), len(above), got, ok)
	}
}

func TestFiltersOfOtherRows(t *testing.T) {
	memory := bytes.Repeat([]byte{7}, 100000)
	lengths := []int{0, 1, 2, 3, 4, 5, 6, 7, 8, 9, 16, 140, 141, 142, 143, mostRow, mostRow + 1, mostRow + 2, mostRow + 3, mostRow + 4, mostRow + 8, 256, 260, 4 * 256, 65536, 65540, 100000}
	for _, n := range lengths {
		for _, m := range lengths {
			good := n == m && n%4 == 0 && 4 <= n && n <= mostRow
			row, above := memory[:n], memory[:m]
			if kind, ok := impl.BestFilter(row, above); ok != good || !ok && kind != 0 {
				t.Errorf("BestFilter of %d and %d bytes: %d, %t", n, m, kind, ok)
			}
			for kind := range 5 {
				if !good {
					checkNoRow(t, kind, row, above)
				} else if got, ok := impl.FilterRow(kind, row, above); !ok || len(got) != n {
					t.Errorf("FilterRow of %d and %d bytes: %d, %t", n, m, len(got), ok)
				} else if got, ok := impl.UnfilterRow(kind, row, above); !ok || len(got) != n {
					t.Errorf("UnfilterRow of %d and %d bytes: %d, %t", n, m, len(got), ok)
				}
			}
		}
	}
	for kind := range 5 {
		checkNoRow(t, kind, nil, nil)
		checkNoRow(t, kind, memory[:4], nil)
		checkNoRow(t, kind, nil, memory[:4])
	}
	if kind, ok := impl.BestFilter(nil, nil); ok || kind != 0 {
		t.Error(kind, ok)
	}
}

func TestFiltersWriteIntoNoArgument(t *testing.T) {
	d := dice(3)
	row, above := d.bytes(40, 0, 256), d.bytes(40, 0, 256)
	for kind := range 5 {
		for name, call := range map[string]func(a, b []byte) []byte{
			"FilterRow":   func(a, b []byte) []byte { out, _ := impl.FilterRow(kind, a, b); return out },
			"UnfilterRow": func(a, b []byte) []byte { out, _ := impl.UnfilterRow(kind, a, b); return out },
			"BestFilter":  func(a, b []byte) []byte { impl.BestFilter(a, b); return nil },
		} {
			name = name + " of kind " + strconv.Itoa(kind)
			checkApart(t, name+", row", row, func(b []byte) []byte { return call(b, above) })
			checkApart(t, name+", above", above, func(b []byte) []byte { return call(row, b) })
			checkApart(t, name+", row that is above", row, func(b []byte) []byte { return call(b, b) })
		}
	}
	// Two rows of one memory, as a picture has them.
	both := d.bytes(80, 0, 256)
	for kind := range 5 {
		want := filterAsTold(kind, rowPair{both[40:], both[:40]})
		if got, ok := impl.FilterRow(kind, both[40:], both[:40]); !ok || !bytes.Equal(got, want) {
			t.Errorf("kind %d of two rows side by side: %v, not %v", kind, got, want)
		}
	}
}

// picture has its pixels in rows from the top, four bytes each.
type picture struct {
	wide, high int
	pixels     []byte
}

func picturesOfAllKinds() map[string]picture {
	d := dice(2024)
	all := map[string]picture{
		"one pixel":   {1, 1, []byte{1, 2, 3, 4}},
		"one of none": {1, 1, []byte{0, 0, 0, 0}},
		"one of all":  {1, 1, []byte{255, 255, 255, 255}},
		"other sides": {2, 3, risingBytes(0, 24)},
		"sides about": {3, 2, risingBytes(0, 24)},
	}
	for _, side := range [][2]int{{1, impl.MaxSide}, {impl.MaxSide, 1}, {impl.MaxSide, impl.MaxSide}, {2, 2}, {7, 30}, {30, 7}, {35, 36}, {36, 35}} {
		n := 4 * side[0] * side[1]
		name := strconv.Itoa(side[0]) + " by " + strconv.Itoa(side[1])
		all[name+" of one color"] = picture{side[0], side[1], bytes.Repeat([]byte{200, 30, 7, 128}, n/4)}
		all[name+" of noughts"] = picture{side[0], side[1], make([]byte, n)}
		all[name+" of full"] = picture{side[0], side[1], bytes.Repeat([]byte{255}, n)}
		all[name+" without order"] = picture{side[0], side[1], d.bytes(n, 0, 256)}
		all[name+" of few"] = picture{side[0], side[1], d.bytes(n, 250, 12)}
		all[name+" slope"] = slope(side[0], side[1])
	}
	for k := range 30 {
		wide, high := 1+d.below(impl.MaxSide), 1+d.below(impl.MaxSide)
		all["dice "+strconv.Itoa(k)] = picture{wide, high, d.bytes(4*wide*high, d.below(256), 1+d.below(256))}
	}
	return all
}

func slope(wide, high int) picture {
	p := picture{wide, high, nil}
	for y := range high {
		for x := range wide {
			p.pixels = append(p.pixels, byte(x*7), byte(y*5), byte(x*3+y*2), byte(255-x*y))
		}
	}
	return p
}

func TestPicturesComeBackFromTheirFiles(t *testing.T) {
	for name, p := range picturesOfAllKinds() {
		b, ok := impl.EncodePng(p.wide, p.high, p.pixels)
		if !ok || len(b) > 2*impl.MaxData {
			t.Fatalf("%s: %d bytes, %t", name, len(b), ok)
		}
		checkPicture(t, name, b, p)
	}
}

func checkPicture(t *testing.T, name string, b []byte, want picture) {
	t.Helper()
	wide, high, pixels, code := impl.DecodePng(b)
	if wide != want.wide || high != want.high || code != impl.PngOk || !bytes.Equal(pixels, want.pixels) {
		t.Errorf("%s: %d by %d, %d bytes, code %d; not %d by %d", name, wide, high, len(pixels), code, want.wide, want.high)
	}
}

// rowsOf answers the rows with the kind ahead of each, by kindAt.
func rowsOf(p picture, kindAt func(k int, pair rowPair) int) []byte {
	var out []byte
	above := make([]byte, 4*p.wide)
	for k := range p.high {
		row := p.pixels[4*p.wide*k : 4*p.wide*(k+1)]
		pair := rowPair{row, above}
		kind := kindAt(k, pair)
		out = append(out, byte(kind))
		out = append(out, filterAsTold(kind, pair)...)
		above = row
	}
	return out
}

func bestOf(_ int, pair rowPair) int { return bestAsTold(pair)[0] }

func TestEncodePngForm(t *testing.T) {
	for name, p := range picturesOfAllKinds() {
		rows := rowsOf(p, bestOf)
		packed, ok := impl.PackBest(rows)
		if !ok || len(rows) > mostRows {
			t.Fatal(name, ok, len(rows))
		}
		data := slices.Concat([]byte{120, 1}, packed, fourBytes(adler32.Checksum(rows)))
		want := fileOf(chunkOf("IHDR", headOf(p.wide, p.high)), chunkOf("IDAT", data), chunkOf("IEND", nil))
		if got, ok := impl.EncodePng(p.wide, p.high, p.pixels); !ok || !bytes.Equal(got, want) {
			t.Errorf("%s: %d bytes, %t, are not the %d as told", name, len(got), ok, len(want))
		}
	}
}

func TestEncodePngByHand(t *testing.T) {
	want := []byte{137, 80, 78, 71, 13, 10, 26, 10,
		0, 0, 0, 13, 'I', 'H', 'D', 'R', 0, 0, 0, 1, 0, 0, 0, 1, 8, 6, 0, 0, 0, 0x1f, 0x15, 0xc4, 0x89,
		0, 0, 0, 13, 'I', 'D', 'A', 'T', 120, 1, 0x63, 0x60, 0x64, 0x62, 0x66, 0x01, 0, 0, 25, 0, 11}
	want = append(want, fourBytes(crc32.ChecksumIEEE(want[37:]))...)
	want = append(want, 0, 0, 0, 0, 'I', 'E', 'N', 'D', 0xae, 0x42, 0x60, 0x82)
	if got, ok := impl.EncodePng(1, 1, []byte{1, 2, 3, 4}); !ok || !bytes.Equal(got, want) {
		t.Errorf("%v, not %v", got, want)
	}
}

func TestEncodePngIsReadByAnother(t *testing.T) {
	for name, p := range picturesOfAllKinds() {
		b, _ := impl.EncodePng(p.wide, p.high, p.pixels)
		img, err := png.Decode(bytes.NewReader(b))
		if err != nil {
			t.Errorf("%s: %v", name, err)
			continue
		}
		got, ok := img.(*image.NRGBA)
		if !ok || got.Rect != image.Rect(0, 0, p.wide, p.high) || !bytes.Equal(got.Pix, p.pixels) {
			t.Errorf("%s is read otherwise", name)
		}
	}
}

func TestDecodePngReadsWhatAnotherWrites(t *testing.T) {
	for name, p := range picturesOfAllKinds() {
		img := image.NewNRGBA(image.Rect(0, 0, p.wide, p.high))
		copy(img.Pix, p.pixels)
		img.Pix[3] &= 127 // of what is opaque the other one writes no alpha
		p.pixels = slices.Clone(img.Pix)
		if got := img.NRGBAAt(0, 0); got != (color.NRGBA{p.pixels[0], p.pixels[1], p.pixels[2], p.pixels[3]}) {
			t.Fatal(got)
		}
		for _, level := range []png.CompressionLevel{png.NoCompression, png.BestSpeed, png.DefaultCompression, png.BestCompression} {
			var file bytes.Buffer
			if err := (&png.Encoder{CompressionLevel: level}).Encode(&file, img); err != nil {
				t.Fatal(err)
			}
			checkPicture(t, name+" of another", file.Bytes(), p)
		}
	}
}

func TestEncodePngOfOtherSides(t *testing.T) {
	memory := make([]byte, 4*(impl.MaxSide+1)*(impl.MaxSide+1))
	for _, side := range badSides {
		for _, other := range append([]int{1, 2, impl.MaxSide}, badSides...) {
			for _, n := range []int{0, 4, 4 * impl.MaxSide, 4 * (impl.MaxSide + 1), 4 * impl.MaxSide * (impl.MaxSide + 1), len(memory)} {
				checkNoFile(t, side, other, memory[:n])
				checkNoFile(t, other, side, memory[:n])
			}
			if n := 4 * side * other; n >= 0 && n <= len(memory) { // as many as the product tells, though a side is none
				checkNoFile(t, side, other, memory[:n])
				checkNoFile(t, other, side, memory[:n])
			}
		}
	}
	if _, ok := impl.EncodePng(impl.MaxSide, impl.MaxSide, memory[:4*impl.MaxSide*impl.MaxSide]); !ok {
		t.Error("MaxSide may be met")
	}
}

func checkNoFile(t *testing.T, wide, high int, pixels []byte) {
	t.Helper()
	if b, ok := impl.EncodePng(wide, high, pixels); ok || len(b) != 0 {
		t.Errorf("EncodePng of %d by %d and %d bytes: %d bytes, %t", wide, high, len(pixels), len(b), ok)
	}
}

func TestEncodePngOfOtherPixels(t *testing.T) {
	memory := make([]byte, 100000)
	for _, side := range [][2]int{{1, 1}, {1, 2}, {5, 3}, {impl.MaxSide, 1}, {1, impl.MaxSide}, {impl.MaxSide, impl.MaxSide}} {
		n := 4 * side[0] * side[1]
		for _, other := range []int{0, 1, n - 4, n - 3, n - 1, n + 1, n + 3, n + 4, 2 * n, 100000} {
			checkNoFile(t, side[0], side[1], memory[:other])
		}
		checkNoFile(t, side[0], side[1], nil)
		if _, ok := impl.EncodePng(side[0], side[1], memory[:n]); !ok {
			t.Errorf("%d by %d: %d bytes are as many as there must be", side[0], side[1], n)
		}
	}
}

func TestPicturesWriteIntoNoArgument(t *testing.T) {
	for name, p := range picturesOfAllKinds() {
		encode := func(b []byte) []byte { out, _ := impl.EncodePng(p.wide, p.high, b); return out }
		decode := func(b []byte) []byte { _, _, out, _ := impl.DecodePng(b); return out }
		checkApart(t, "EncodePng of "+name, p.pixels, encode)
		checkApart(t, "EncodePng of too few, "+name, p.pixels[1:], encode)
		b := encode(p.pixels)
		checkApart(t, "DecodePng of "+name, b, decode)
		checkApart(t, "DecodePng of a part of "+name, b[:len(b)-1], decode)
		checkApart(t, "Adler32 of "+name, b, func(b []byte) []byte { impl.Adler32(b); return nil })
		checkApart(t, "Crc32 of "+name, b, func(b []byte) []byte { impl.Crc32(b); return nil })
		// Stored rows stand in the file as they are: what is answered must be others.
		stored, _ := impl.PackStoredOf(rowsOf(p, func(int, rowPair) int { return 0 }))
		plain := slices.Concat([]byte{120, 1}, stored, fourBytes(adler32.Checksum(stored[5:])))
		checkApart(t, "DecodePng of stored "+name, fileOf(chunkOf("IHDR", headOf(p.wide, p.high)), chunkOf("IDAT", plain), chunkOf("IEND", nil)), decode)
	}
}
