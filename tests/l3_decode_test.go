package tests

import (
	"bytes"
	"compress/zlib"
	"encoding/binary"
	"hash/adler32"
	"hash/crc32"
	"slices"
	"strconv"
	"testing"

	"loop.example/g00137/impl"
)

func fourBytes(n uint32) []byte { return binary.BigEndian.AppendUint32(nil, n) }

// chunkOf answers a chunk with the sum that it must have.
func chunkOf(name string, data []byte) []byte {
	inside := append([]byte(name), data...)
	return slices.Concat(fourBytes(uint32(len(data))), inside, fourBytes(crc32.ChecksumIEEE(inside)))
}

// wrongSum answers a chunk whose sum has one bit turned about.
func wrongSum(chunk []byte) []byte {
	out := slices.Clone(chunk)
	out[len(out)-1] ^= 1
	return out
}

func headOf(wide, high int) []byte {
	return slices.Concat(fourBytes(uint32(wide)), fourBytes(uint32(high)), []byte{8, 6, 0, 0, 0})
}

func fileOf(chunks ...[]byte) []byte {
	return append([]byte{137, 80, 78, 71, 13, 10, 26, 10}, slices.Concat(chunks...)...)
}

// zlibOf answers rows as data of IDAT, by the blocks that are handed in for them.
func zlibOf(blocks, rows []byte) []byte {
	return slices.Concat([]byte{120, 1}, blocks, fourBytes(adler32.Checksum(rows)))
}

func storedOf(t *testing.T, rows []byte) []byte {
	t.Helper()
	blocks, ok := impl.PackStoredOf(rows)
	if !ok {
		t.Fatal("too many rows")
	}
	return zlibOf(blocks, rows)
}

// smallPicture is what the files of these tests tell, if they tell one.
func smallPicture() picture { return slope(3, 4) }

func plainRows(p picture) []byte { return rowsOf(p, func(int, rowPair) int { return 0 }) }

// parts are the three chunks of a good file of smallPicture.
type parts struct {
	head, data, end []byte
}

func smallParts(t *testing.T) parts {
	p := smallPicture()
	return parts{chunkOf("IHDR", headOf(p.wide, p.high)), chunkOf("IDAT", storedOf(t, plainRows(p))), chunkOf("IEND", nil)}
}

// fileWithData answers a file whose IDAT has these data.
func fileWithData(t *testing.T, data []byte) []byte {
	p := smallParts(t)
	return fileOf(p.head, chunkOf("IDAT", data), p.end)
}

func checkPngCode(t *testing.T, name string, b []byte, want int) {
	t.Helper()
	wide, high, pixels, code := impl.DecodePng(b)
	if code != want || wide != 0 || high != 0 || len(pixels) != 0 {
		t.Errorf("%s: %d by %d, %d bytes, code %d, not code %d", name, wide, high, len(pixels), code, want)
	}
}

func checkSmall(t *testing.T, name string, b []byte) {
	t.Helper()
	checkPicture(t, name, b, smallPicture())
}

func TestDecodePngLong(t *testing.T) {
	p := smallParts(t)
	good := fileOf(p.head, p.data, p.end)
	checkSmall(t, "a small file", good)
	full := append(slices.Clone(good), make([]byte, 2*impl.MaxData-len(good))...)
	checkSmall(t, "2 MaxData bytes", full)
	checkPngCode(t, "one more", append(full, 0), impl.PngLong)
	checkPngCode(t, "2 MaxData noughts", make([]byte, 2*impl.MaxData), impl.PngMark)
	checkPngCode(t, "one nought more", make([]byte, 2*impl.MaxData+1), impl.PngLong)
	checkPngCode(t, "many more", make([]byte, 1000000), impl.PngLong)
	long := chunkOf("teXt", make([]byte, 2*impl.MaxData-len(good)-12))
	checkSmall(t, "a long chunk between", fileOf(p.head, long, p.data, p.end))
	checkPngCode(t, "a longer chunk between", fileOf(p.head, long, p.data, p.end, []byte{0}), impl.PngLong)
}

func TestDecodePngMark(t *testing.T) {
	p := smallParts(t)
	good := fileOf(p.head, p.data, p.end)
	checkPngCode(t, "nil", nil, impl.PngMark)
	checkPngCode(t, "no bytes", []byte{}, impl.PngMark)
	for k := range 8 {
		checkPngCode(t, "a part of the mark", good[:k], impl.PngMark)
		for bit := range 8 {
			other := slices.Clone(good)
			other[k] ^= 1 << bit
			checkPngCode(t, "another mark", other, impl.PngMark)
		}
	}
	checkPngCode(t, "no mark", good[8:], impl.PngMark)
	checkPngCode(t, "a byte ahead", append([]byte{137}, good...), impl.PngMark)
	checkPngCode(t, "what lies behind the length", good[:7:len(good)], impl.PngMark)
}

func TestDecodePngShortWhereverItEnds(t *testing.T) {
	p := smallParts(t)
	other := chunkOf("teXt", []byte("a few bytes"))
	for _, good := range [][]byte{fileOf(p.head, p.data, p.end), fileOf(p.head, other, p.data, other, p.end)} {
		checkSmall(t, "the whole file", good)
		for n := 8; n < len(good); n++ {
			checkPngCode(t, "the first "+strconv.Itoa(n), good[:n], impl.PngShort)
			checkPngCode(t, "the first as memory of its own "+strconv.Itoa(n), slices.Clone(good[:n]), impl.PngShort)
		}
	}
	checkPngCode(t, "no IEND", fileOf(p.head, p.data), impl.PngShort)
	checkPngCode(t, "no chunk", fileOf(), impl.PngShort)
}

func TestDecodePngLengths(t *testing.T) {
	p := smallParts(t)
	for _, length := range []uint32{100000, 100001, 99999, 1 << 16, 1 << 24, 1<<31 - 1, 1 << 31, 1<<32 - 12, 1<<32 - 4, 1<<32 - 1} {
		for at, good := range [][]byte{p.head, p.data, p.end} {
			chunks := [][]byte{p.head, p.data, p.end}
			chunks[at] = slices.Concat(fourBytes(length), good[4:])
			checkPngCode(t, "length "+strconv.Itoa(int(length)), fileOf(chunks...), impl.PngShort)
		}
	}
	// One byte more is there for each chunk but the last one, and then its sum is another.
	more := slices.Clone(p.data)
	more[3]++
	checkPngCode(t, "one byte more than there is", fileOf(p.head, more), impl.PngShort)
	checkPngCode(t, "one byte more of the next chunk", fileOf(p.head, more, p.end), impl.PngSum)
}

func TestDecodePngSum(t *testing.T) {
	p := smallParts(t)
	other := chunkOf("teXt", []byte("text"))
	good := [][]byte{p.head, other, p.data, p.end}
	checkSmall(t, "without a fault", fileOf(good...))
	for at, chunk := range good {
		for k := 4; k < len(chunk); k++ {
			chunks := slices.Clone(good)
			chunks[at] = slices.Clone(chunk)
			chunks[at][k] ^= 4
			checkPngCode(t, "chunk "+strconv.Itoa(at)+" at "+strconv.Itoa(k), fileOf(chunks...), impl.PngSum)
		}
	}
	turned := slices.Clone(p.end)
	slices.Reverse(turned[8:])
	checkPngCode(t, "a sum turned about", fileOf(p.head, p.data, turned), impl.PngSum)
	noName := slices.Concat(p.end[:8], fourBytes(crc32.ChecksumIEEE(nil)))
	checkPngCode(t, "a sum without the name", fileOf(p.head, p.data, noName), impl.PngSum)
}

func TestDecodePngHead(t *testing.T) {
	p := smallParts(t)
	head := headOf(3, 4)
	check := func(name string, data []byte) {
		t.Helper()
		checkPngCode(t, name, fileOf(chunkOf("IHDR", data), p.data, p.end), impl.PngHead)
		checkPngCode(t, name+", alone", fileOf(chunkOf("IHDR", data)), impl.PngHead)
	}
	for n := range len(head) {
		check("the first "+strconv.Itoa(n), head[:n])
	}
	check("one nought more", append(slices.Clone(head), 0))
	check("one byte ahead", append([]byte{0}, head...))
	check("many more", append(slices.Clone(head), head...))
	for k := 8; k < 13; k++ {
		for x := range 256 {
			if other := slices.Clone(head); byte(x) != head[k] {
				other[k] = byte(x)
				check("another byte at "+strconv.Itoa(k), other)
			}
		}
	}
	for _, side := range []int{0, impl.MaxSide + 1, 255, 256, 257, 256 + 3, 65536 + 3, 1<<24 + 3, 1<<31 + 3, 1<<32 - 1, 1<<32 - 3} {
		check("wide "+strconv.Itoa(side), headOf(side, 4))
		check("high "+strconv.Itoa(side), headOf(3, side))
		check("both "+strconv.Itoa(side), headOf(side, side))
	}
}

func TestDecodePngSides(t *testing.T) {
	for wide := range impl.MaxSide + 1 {
		for high := range impl.MaxSide + 1 {
			p := smallParts(t)
			want := impl.PngData // the sides are good, but the data are of another picture
			if wide == 0 || high == 0 {
				want = impl.PngHead
			}
			if (4*wide+1)*high != 13*4 {
				checkPngCode(t, "other sides", fileOf(chunkOf("IHDR", headOf(wide, high)), p.data, p.end), want)
			}
		}
	}
}

func TestDecodePngChunkOrder(t *testing.T) {
	p := smallParts(t)
	other := chunkOf("teXt", []byte("a few bytes"))
	none := chunkOf("IDAT", nil)
	for name, chunks := range map[string][][]byte{
		"IDAT first":                    {p.data, p.end},
		"IDAT ahead of IHDR":            {p.data, p.head, p.end},
		"IEND first":                    {p.end},
		"IEND ahead of IHDR":            {p.end, p.head, p.data},
		"a small one ahead of IHDR":     {other, p.head, p.data, p.end},
		"a great one ahead of IHDR":     {chunkOf("TEXT", nil), p.head, p.data, p.end},
		"IHDR again":                    {p.head, p.head, p.data, p.end},
		"IHDR behind IDAT":              {p.head, p.data, p.head, p.end},
		"IHDR again behind a small one": {p.head, other, p.head, p.data, p.end},
		"another between IDAT":          {p.head, none, other, p.data, p.end},
		"another behind IDAT":           {p.head, p.data, other, none, p.end},
		"two others between IDAT":       {p.head, p.data, other, other, none, p.end},
		"others ahead and between":      {p.head, other, p.data, other, none, p.end},
		"IEND with a byte":              {p.head, p.data, chunkOf("IEND", []byte{0})},
		"IEND with bytes":               {p.head, p.data, chunkOf("IEND", make([]byte, 300))},
		"IEND with data ahead of IDAT":  {p.head, chunkOf("IEND", []byte{0}), p.data, p.end},
		"IEND ahead of IDAT":            {p.head, p.end, p.data, p.end},
		"IEND without IDAT":             {p.head, p.end},
		"IEND and a small one, no IDAT": {p.head, other, p.end},
		"a great one behind IHDR":       {p.head, chunkOf("PLTE", []byte{1, 2, 3}), p.data, p.end},
		"a great one behind IDAT":       {p.head, p.data, chunkOf("PLTE", nil), p.end},
	} {
		checkPngCode(t, name, fileOf(chunks...), impl.PngChunk)
	}
}

func TestDecodePngChunkNames(t *testing.T) {
	p := smallParts(t)
	for x := range 256 {
		for _, tail := range []string{"eXt", "HDR", "DAT", "END", "\x00\xff "} {
			name := string([]byte{byte(x)}) + tail
			if x == 'I' && tail != "eXt" && tail != "\x00\xff " {
				continue // these three have rules of their own
			}
			chunk := chunkOf(name, []byte("some"))
			for place, b := range [][]byte{fileOf(p.head, chunk, p.data, p.end), fileOf(p.head, p.data, chunk, p.end)} {
				if 'a' <= x && x <= 'z' {
					checkSmall(t, strconv.Quote(name), b)
				} else {
					checkPngCode(t, strconv.Quote(name)+" at "+strconv.Itoa(place), b, impl.PngChunk)
				}
			}
		}
	}
	for _, name := range []string{"ihdr", "IHDr", "IDAt", "IENd", "Iend", "IDaT", "iDAT"} {
		want := fileOf(p.head, chunkOf(name, nil), p.data, p.end)
		if name[0] == 'i' {
			checkSmall(t, name, want)
		} else {
			checkPngCode(t, name, want, impl.PngChunk)
		}
	}
}

func TestDecodePngPassesOver(t *testing.T) {
	p := smallParts(t)
	other := chunkOf("teXt", []byte("a few bytes"))
	empty := chunkOf("zzzz", nil)
	for name, chunks := range map[string][][]byte{
		"one ahead":         {p.head, other, p.data, p.end},
		"one behind":        {p.head, p.data, other, p.end},
		"many":              {p.head, empty, other, empty, p.data, empty, other, other, p.end},
		"a byte behind":     {p.head, p.data, p.end, {0}},
		"a second file":     {p.head, p.data, p.end, fileOf(p.head, p.data, p.end)},
		"chunks behind":     {p.head, p.data, p.end, p.head, p.data, chunkOf("IEND", []byte{1}), wrongSum(other)},
		"a fault behind":    {p.head, p.data, p.end, wrongSum(p.end)},
		"half chunk behind": {p.head, p.data, p.end, p.data[:20]},
	} {
		checkSmall(t, name, fileOf(chunks...))
	}
}

func TestDecodePngSeveralData(t *testing.T) {
	p := smallParts(t)
	none := chunkOf("IDAT", nil)
	data := storedOf(t, plainRows(smallPicture()))
	for k := range len(data) + 1 {
		ahead, behind := chunkOf("IDAT", data[:k]), chunkOf("IDAT", data[k:])
		checkSmall(t, "two at "+strconv.Itoa(k), fileOf(p.head, ahead, behind, p.end))
		checkSmall(t, "with an empty one at "+strconv.Itoa(k), fileOf(p.head, none, ahead, none, none, behind, none, p.end))
		between := chunkOf("teXt", nil)
		checkPngCode(t, "with another one between at "+strconv.Itoa(k), fileOf(p.head, ahead, between, behind, p.end), impl.PngChunk)
	}
	var each [][]byte
	for k := range data {
		each = append(each, chunkOf("IDAT", data[k:k+1]))
	}
	checkSmall(t, "a byte each", fileOf(p.head, slices.Concat(each...), p.end))
	checkPngCode(t, "one of them lacks", fileOf(p.head, slices.Concat(each[1:]...), p.end), impl.PngData)
	checkPngCode(t, "turned about", fileOf(p.head, chunkOf("IDAT", data[9:]), chunkOf("IDAT", data[:9]), p.end), impl.PngData)
}

func TestDecodePngDataHead(t *testing.T) {
	rows := plainRows(smallPicture())
	data := storedOf(t, rows)
	for n := range len(data) {
		checkPngCode(t, "the first "+strconv.Itoa(n), fileWithData(t, data[:n]), impl.PngData)
	}
	good := 0
	for first := range 256 {
		for second := range 256 {
			other := slices.Clone(data)
			other[0], other[1] = byte(first), byte(second)
			if first&15 == 8 && first>>4 <= 7 && (first<<8|second)%31 == 0 && second&32 == 0 {
				good++
				checkSmall(t, "good first bytes", fileWithData(t, other))
			} else {
				checkPngCode(t, "first bytes "+strconv.Itoa(first)+" "+strconv.Itoa(second), fileWithData(t, other), impl.PngData)
			}
		}
	}
	if good < 8 {
		t.Error("too few pairs of first bytes are good:", good)
	}
	checkPngCode(t, "six noughts", fileWithData(t, make([]byte, 6)), impl.PngData)
	checkPngCode(t, "six bytes without a block", fileWithData(t, []byte{120, 1, 0, 0, 0, 1}), impl.PngData)
}

func TestDecodePngDataBlocks(t *testing.T) {
	rows := plainRows(smallPicture())
	stored, _ := impl.PackStoredOf(rows)
	sum := fourBytes(adler32.Checksum(rows))
	start := []byte{120, 1}
	for name, data := range map[string][]byte{
		"a block of kind 3":      slices.Concat(start, []byte{7}, stored[1:], sum),
		"no last block":          slices.Concat(start, []byte{0}, stored[1:], sum),
		"a wrong second number":  slices.Concat(start, stored[:3], []byte{stored[3] ^ 1}, stored[4:], sum),
		"a byte behind blocks":   slices.Concat(start, stored, []byte{0}, sum),
		"four bytes more behind": slices.Concat(start, stored, sum, sum),
		"no sum":                 slices.Concat(start, stored),
		"a part of the sum":      slices.Concat(start, stored, sum[:3]),
		"the first byte lacks":   slices.Concat(start[:1], stored, sum),
	} {
		checkPngCode(t, name, fileWithData(t, data), impl.PngData)
	}
	checkSmall(t, "blocks as they must be", fileWithData(t, slices.Concat(start, stored, sum)))
	// The blocks take the last four bytes too, and these are the sum of what comes out.
	into := []byte{0, 3, 251, 1, 247}
	if !bytes.Equal(into[1:], fourBytes(adler32.Checksum(into))) {
		t.Fatal("this row does not end in its own sum")
	}
	p := smallParts(t)
	head := chunkOf("IHDR", headOf(1, 1))
	own, _ := impl.PackStoredOf(into)
	checkPngCode(t, "blocks that take the sum", fileOf(head, chunkOf("IDAT", slices.Concat(start, own)), p.end), impl.PngData)
	checkPicture(t, "the same with a sum", fileOf(head, chunkOf("IDAT", zlibOf(own, into)), p.end), picture{1, 1, into[1:]})
}

func TestDecodePngDataSum(t *testing.T) {
	rows := plainRows(smallPicture())
	data := storedOf(t, rows)
	for k := range 4 {
		for bit := range 8 {
			other := slices.Clone(data)
			other[len(other)-4+k] ^= 1 << bit
			checkPngCode(t, "a bit of the sum", fileWithData(t, other), impl.PngData)
		}
	}
	turned := slices.Clone(data)
	slices.Reverse(turned[len(turned)-4:])
	checkPngCode(t, "the sum turned about", fileWithData(t, turned), impl.PngData)
	pixels := slices.Clone(data)
	pixels[10] ^= 1
	checkPngCode(t, "another byte of the rows", fileWithData(t, pixels), impl.PngData)
	checkPngCode(t, "the sum of what is packed", fileWithData(t, zlibOf(data[2:len(data)-4], data[2:len(data)-4])), impl.PngData)
	crc := slices.Concat(data[:len(data)-4], fourBytes(crc32.ChecksumIEEE(rows)))
	checkPngCode(t, "the other sum", fileWithData(t, crc), impl.PngData)
}

func TestDecodePngDataSize(t *testing.T) {
	rows := plainRows(smallPicture())
	for n := range 2 * len(rows) {
		other := slices.Concat(rows, rows)[:n]
		if n == len(rows) {
			checkSmall(t, "as many as there must be", fileWithData(t, storedOf(t, other)))
		} else {
			checkPngCode(t, strconv.Itoa(n)+" bytes", fileWithData(t, storedOf(t, other)), impl.PngData)
		}
	}
	checkPngCode(t, "MaxData bytes", fileWithData(t, storedOf(t, make([]byte, impl.MaxData))), impl.PngData)
}

func TestDecodePngFilter(t *testing.T) {
	p := smallPicture()
	size := 4*p.wide + 1
	for k := range p.high {
		for kind := 5; kind < 256; kind++ {
			rows := plainRows(p)
			rows[k*size] = byte(kind)
			checkPngCode(t, "row "+strconv.Itoa(k)+" of kind "+strconv.Itoa(kind), fileWithData(t, storedOf(t, rows)), impl.PngFilter)
		}
	}
	rows := plainRows(p)
	rows[1] = 255 // a pixel's byte is no kind
	want := p
	want.pixels = slices.Clone(p.pixels)
	want.pixels[0] = 255
	checkPicture(t, "a great byte of a pixel", fileWithData(t, storedOf(t, rows)), want)
}

// packedByAnother answers rows packed by the library, at a level of its own.
func packedByAnother(t *testing.T, rows []byte, level int) []byte {
	var out bytes.Buffer
	w, err := zlib.NewWriterLevel(&out, level)
	if err != nil {
		t.Fatal(err)
	}
	if _, err := w.Write(rows); err != nil {
		t.Fatal(err)
	}
	if err := w.Close(); err != nil {
		t.Fatal(err)
	}
	return out.Bytes()
}

func TestDecodePngRowsOfEachKind(t *testing.T) {
	d := dice(4)
	for name, p := range picturesOfAllKinds() {
		for kind := range 6 {
			rows := rowsOf(p, func(k int, _ rowPair) int {
				if kind == 5 {
					return d.below(5)
				}
				return kind
			})
			head, end := chunkOf("IHDR", headOf(p.wide, p.high)), chunkOf("IEND", nil)
			checkPicture(t, name+", stored", fileOf(head, chunkOf("IDAT", storedOf(t, rows)), end), p)
			for _, level := range []int{zlib.HuffmanOnly, zlib.BestSpeed, zlib.BestCompression} {
				checkPicture(t, name+", by another", fileOf(head, chunkOf("IDAT", packedByAnother(t, rows, level)), end), p)
			}
		}
	}
}

func TestDecodePngFirstFaultCounts(t *testing.T) {
	p := smallParts(t)
	rows := plainRows(smallPicture())
	badRows := slices.Clone(rows)
	badRows[0] = 9
	filter := chunkOf("IDAT", storedOf(t, badRows))
	data := chunkOf("IDAT", []byte{1, 2, 3})
	head := chunkOf("IHDR", headOf(0, 4))
	great := chunkOf("PLTE", nil)
	endWith := chunkOf("IEND", []byte{1})
	fewRows := storedOf(t, badRows[:len(badRows)-1])
	badSum := storedOf(t, badRows)
	badSum[len(badSum)-1] ^= 1
	for _, c := range []struct {
		name string
		b    []byte
		want int
	}{
		{"too long and no mark", make([]byte, 2*impl.MaxData+1), impl.PngLong},
		{"too long and a chunk in two", fileOf(p.head, p.data[:9], make([]byte, 2*impl.MaxData)), impl.PngLong},
		{"no mark and a wrong sum", fileOf(wrongSum(p.head))[1:], impl.PngMark},
		{"no mark and too short", []byte{137, 80}, impl.PngMark},
		{"short and not IHDR", fileOf(p.data[:len(p.data)-1]), impl.PngShort},
		{"short and a wrong sum", fileOf(wrongSum(p.head)[:len(p.head)-2]), impl.PngShort},
		{"short and a great letter", fileOf(p.head, great[:len(great)-1]), impl.PngShort},
		{"a great length and not IHDR", fileOf(slices.Concat(fourBytes(100001), p.data[4:])), impl.PngShort},
		{"short and IHDR of 12 bytes", fileOf(chunkOf("IHDR", headOf(3, 4)[:12])[:23]), impl.PngShort},
		{"a wrong sum and not IHDR", fileOf(wrongSum(p.data), p.head, p.end), impl.PngSum},
		{"a wrong sum and a side 0", fileOf(wrongSum(head), p.data, p.end), impl.PngSum},
		{"a wrong sum and IHDR again", fileOf(p.head, wrongSum(p.head), p.data, p.end), impl.PngSum},
		{"a wrong sum and a great letter", fileOf(p.head, wrongSum(great), p.data, p.end), impl.PngSum},
		{"a wrong sum and IEND with data", fileOf(p.head, p.data, wrongSum(endWith)), impl.PngSum},
		{"a wrong sum and IEND ahead of IDAT", fileOf(p.head, wrongSum(p.end)), impl.PngSum},
		{"a wrong sum of what is passed over", fileOf(p.head, wrongSum(chunkOf("teXt", nil)), data, p.end), impl.PngSum},
		{"IHDR again with a side 0", fileOf(p.head, head, p.data, p.end), impl.PngChunk},
		{"IHDR again with 12 bytes", fileOf(p.head, chunkOf("IHDR", headOf(3, 4)[:12]), p.data, p.end), impl.PngChunk},
		{"not IHDR, then short", fileOf(p.data, p.head[:7]), impl.PngChunk},
		{"not IHDR, then a wrong sum", fileOf(p.data, wrongSum(p.head)), impl.PngChunk},
		{"not IHDR, then a side 0", fileOf(great, head), impl.PngChunk},
		{"a great letter, then a wrong sum", fileOf(p.head, great, wrongSum(p.data), p.end), impl.PngChunk},
		{"a great letter, then short", fileOf(p.head, p.data, great), impl.PngChunk},
		{"a great letter, and a wrong filter", fileOf(p.head, filter, great, p.end), impl.PngChunk},
		{"IEND with data, and wrong data", fileOf(p.head, data, endWith), impl.PngChunk},
		{"IEND ahead of IDAT, then a wrong sum", fileOf(p.head, p.end, wrongSum(p.data)), impl.PngChunk},
		{"a side 0, then short", fileOf(head, p.data[:5]), impl.PngHead},
		{"a side 0, then a wrong sum", fileOf(head, wrongSum(p.data), p.end), impl.PngHead},
		{"a side 0, then IHDR again", fileOf(head, p.head, p.data, p.end), impl.PngHead},
		{"a side 0, then a great letter", fileOf(head, great, p.data, p.end), impl.PngHead},
		{"a side 0, and wrong data", fileOf(head, data, p.end), impl.PngHead},
		{"wrong data without IEND", fileOf(p.head, data), impl.PngShort},
		{"wrong data, then a wrong sum", fileOf(p.head, data, wrongSum(p.end)), impl.PngSum},
		{"a wrong filter, then a wrong sum", fileOf(p.head, filter, wrongSum(p.end)), impl.PngSum},
		{"a wrong filter without IEND", fileOf(p.head, filter), impl.PngShort},
		{"a wrong filter and too few rows", fileOf(p.head, chunkOf("IDAT", fewRows), p.end), impl.PngData},
		{"a wrong filter and another sum of rows", fileOf(p.head, chunkOf("IDAT", badSum), p.end), impl.PngData},
		{"an empty IDAT", fileOf(p.head, chunkOf("IDAT", nil), p.end), impl.PngData},
		{"wrong data, and faults behind IEND", fileOf(p.head, data, p.end, wrongSum(great)), impl.PngData},
		{"a wrong filter, and faults behind IEND", fileOf(p.head, filter, p.end, wrongSum(great)), impl.PngFilter},
	} {
		checkPngCode(t, c.name, c.b, c.want)
	}
}

// sealed mends the sums of all chunks that are there, so that faults are met behind them.
func sealed(b []byte) []byte {
	out := slices.Clone(b)
	for at := 8; at+12 <= len(out); {
		end := at + 8 + int(binary.BigEndian.Uint32(out[at:]))
		if end+4 > len(out) {
			break
		}
		copy(out[end:], fourBytes(crc32.ChecksumIEEE(out[at+4:end])))
		at = end + 4
	}
	return out
}

func TestDecodePngOfAnyBytes(t *testing.T) {
	d := dice(606)
	good, _ := impl.EncodePng(9, 7, slope(9, 7).pixels)
	var met [9]int
	for range 20000 {
		b := slices.Clone(good)
		for range 1 + d.below(3) {
			b[d.below(len(b))] ^= byte(1 << d.below(8))
		}
		b = b[:len(b)-d.below(2)*d.below(len(b))]
		if d.below(4) > 0 && len(b) > 8 {
			copy(b, good[:8])
			b = sealed(b)
		}
		wide, high, pixels, code := impl.DecodePng(b)
		if code < 0 || code > 8 || code != 0 && (wide != 0 || high != 0 || len(pixels) != 0) || code == 0 && len(pixels) != 4*wide*high {
			t.Fatalf("%v: %d, %d, %v, %d", b, wide, high, pixels, code)
		}
		met[code]++
	}
	for _, code := range []int{impl.PngMark, impl.PngShort, impl.PngSum, impl.PngHead, impl.PngChunk, impl.PngData} {
		if met[code] == 0 {
			t.Error("the code is never met:", code, met)
		}
	}
	for range 2000 {
		b := append(slices.Clone(good[:8]), d.bytes(d.below(300), 0, 256)...)
		if _, _, _, code := impl.DecodePng(b); code == impl.PngOk {
			t.Fatalf("%v is a picture", b)
		}
	}
}
