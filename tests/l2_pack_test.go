package tests

import (
	"bytes"
	"compress/flate"
	"io"
	"math"
	"slices"
	"strconv"
	"testing"

	"loop.example/g00137/impl"
)

// dice answers the same numbers at each run.
type dice uint64

func (d *dice) below(n int) int {
	*d ^= *d << 13
	*d ^= *d >> 7
	*d ^= *d << 17
	return int(uint64(*d) >> 1 % uint64(n))
}

func (d *dice) bytes(count, from, kinds int) []byte {
	out := make([]byte, count)
	for k := range out {
		out[k] = byte(from + d.below(kinds))
	}
	return out
}

// risingBytes has no stretch of three that comes again, as long as count is at most 256.
func risingBytes(from, count int) []byte {
	out := make([]byte, count)
	for k := range out {
		out[k] = byte(from + k)
	}
	return out
}

// dataOfAllKinds are good arguments of the packing functions, with a word on each.
func dataOfAllKinds() map[string][]byte {
	d := dice(88172645463325252)
	all := map[string][]byte{
		"nil":               nil,
		"none":              {},
		"one byte":          {'a'},
		"one high byte":     {255},
		"two bytes":         {0, 0},
		"three alike":       []byte("aaa"),
		"four alike":        []byte("aaaa"),
		"own beginning":     bytes.Repeat([]byte("abc"), 100),
		"without a stretch": risingBytes(0, 256),
		"high bytes":        risingBytes(144, 112),
		"all alike":         bytes.Repeat([]byte{7}, impl.MaxData),
		"noise":             d.bytes(impl.MaxData, 0, 256),
		"two letters":       d.bytes(impl.MaxData, 'a', 2),
		"few letters":       d.bytes(impl.MaxData-1, 'a', 4),
		"far back":          append(d.bytes(impl.MaxData-300, 0, 256), risingBytes(0, 256)...),
	}
	far := d.bytes(impl.MaxData/2, 0, 256)
	all["far stretches"] = append(slices.Clone(far), far...)
	for _, n := range []int{257, 258, 259, 260, 261, 516, 517, 518} {
		all["alike "+strconv.Itoa(n)] = bytes.Repeat([]byte{'z'}, n)
	}
	for k := range 60 {
		all["dice "+strconv.Itoa(k)] = d.bytes(d.below(300), 0, 1+d.below(200))
	}
	return all
}

func tooMuch() []byte { return make([]byte, impl.MaxData+1) }

func TestConstantsOfPacking(t *testing.T) {
	got := []int{impl.PackOk, impl.PackLong, impl.PackShort, impl.PackKind, impl.PackStored, impl.PackCodes, impl.PackSymbol, impl.PackFar, impl.PackMuch}
	if impl.MaxData != 6000 || !slices.Equal(got, []int{0, 1, 2, 3, 4, 5, 6, 7, 8}) {
		t.Error(impl.MaxData, got)
	}
}

func TestPackedIsUnpackedInEveryWay(t *testing.T) {
	ways := map[string]func([]byte) ([]byte, bool){
		"PackStoredOf": impl.PackStoredOf, "PackFixedOf": impl.PackFixedOf, "PackBest": impl.PackBest,
	}
	for name, data := range dataOfAllKinds() {
		for way, pack := range ways {
			packed, ok := pack(data)
			if !ok {
				t.Fatalf("%s of %s says no", way, name)
			}
			checkUnpacks(t, way+" of "+name, packed, data, len(packed))
			checkUnpacks(t, way+" and more behind, of "+name, append(slices.Clone(packed), 255, 0, 1), data, len(packed))
			other, err := io.ReadAll(flate.NewReader(bytes.NewReader(packed)))
			if err != nil || !bytes.Equal(other, data) {
				t.Fatalf("%s of %s is read otherwise by another reader: %v", way, name, err)
			}
		}
	}
}

func checkUnpacks(t *testing.T, name string, packed, data []byte, took int) {
	t.Helper()
	if len(packed) > 2*impl.MaxData {
		return
	}
	got, gotTook, code := impl.Unpack(packed)
	if code != impl.PackOk || gotTook != took || !bytes.Equal(got, data) {
		t.Fatalf("%s: unpacked %d bytes of %d, took %d of %d, code %d", name, len(got), len(data), gotTook, took, code)
	}
}

func TestPackStoredForm(t *testing.T) {
	for name, data := range dataOfAllKinds() {
		n := len(data)
		want := append([]byte{1, byte(n), byte(n >> 8), ^byte(n), ^byte(n >> 8)}, data...)
		if got, ok := impl.PackStoredOf(data); !ok || !bytes.Equal(got, want) {
			t.Errorf("%s: %t", name, ok)
		}
	}
}

// matchAsTold looks at every earlier place, from the farthest to the nearest.
func matchAsTold(data []byte, at int) (int, int) {
	length, distance := 0, 0
	for from := range at {
		n := 0
		for n < 258 && at+n < len(data) && data[from+n] == data[at+n] {
			n++
		}
		if n >= length {
			length, distance = n, at-from
		}
	}
	if length < 3 {
		return 0, 0
	}
	return length, distance
}

// fixedAsTold lays a block of the fixed codes by the ranges of RFC 1951, chapter 3.2.6, and its tables of 3.2.5.
func fixedAsTold(data []byte) []byte {
	var l laid
	l.number(1, 1)
	l.number(1, 2)
	for at := 0; at < len(data); {
		length, distance := matchAsTold(data, at)
		if length == 0 {
			l.fixed(int(data[at]))
			at++
			continue
		}
		l.fixedLength(length)
		l.fixedDistance(distance)
		at += length
	}
	l.fixed(256)
	return l.bytes()
}

func TestPackFixedForm(t *testing.T) {
	for data, bits := range map[string]string{
		"":         "1 10 0000000",
		"a":        "1 10 10010001 0000000",
		"\x00\xff": "1 10 00110000 111111111 0000000",
		"aaaaa":    "1 10 10010001 0000010 00000 0000000", // a byte, then the length 4 at the distance 1
	} {
		want := lay(func(l *laid) { l.text(bits) })
		if got, ok := impl.PackFixedOf([]byte(data)); !ok || !bytes.Equal(got, want) {
			t.Errorf("%q: %b, not %b", data, got, want)
		}
	}
	for name, data := range dataOfAllKinds() {
		if got, ok := impl.PackFixedOf(data); !ok || !bytes.Equal(got, fixedAsTold(data)) {
			t.Errorf("%s: not as told", name)
		}
	}
}

func TestPackFixedLengthsAndDistances(t *testing.T) {
	for length := 3; length <= 258; length++ {
		data := append([]byte("x"), bytes.Repeat([]byte("y"), length+1)...)
		if got, _ := impl.PackFixedOf(data); !bytes.Equal(got, fixedAsTold(data)) {
			t.Fatalf("the length %d is laid otherwise", length)
		}
	}
	d := dice(5)
	for _, distance := range []int{1, 2, 3, 4, 5, 6, 7, 8, 9, 12, 13, 16, 17, 24, 25, 32, 33, 48, 49, 64, 65, 96, 97, 128, 129, 192, 193, 256, 257, 384, 385,
		512, 513, 768, 769, 1024, 1025, 1536, 1537, 2048, 2049, 3072, 3073, 4096, 4097, 5000, 5996} {
		data := d.bytes(distance, 0, 256)
		data = append(data, data...)[:distance+min(distance, 4)]
		got, ok := impl.PackFixedOf(data)
		if !ok || !bytes.Equal(got, fixedAsTold(data)) {
			t.Fatalf("the distance %d is laid otherwise", distance)
		}
		checkUnpacks(t, "distance", got, data, len(got))
	}
}

func TestPackBestIsTheShorterOne(t *testing.T) {
	all := dataOfAllKinds()
	for n := 20; n < 34; n++ {
		all["nine bits, "+strconv.Itoa(n)] = risingBytes(150, n)
	}
	alike := 0
	for name, data := range all {
		stored, _ := impl.PackStoredOf(data)
		fixed, _ := impl.PackFixedOf(data)
		want := stored
		if len(fixed) < len(stored) {
			want = fixed
		}
		if len(fixed) == len(stored) {
			alike++
		}
		if got, ok := impl.PackBest(data); !ok || !bytes.Equal(got, want) {
			t.Errorf("%s: not the shorter one, or of two the fixed one", name)
		}
	}
	if alike < 3 {
		t.Error("the data have too few of which both packings are as long:", alike)
	}
}

func TestMatchAt(t *testing.T) {
	cases := []struct {
		data             string
		at               int
		length, distance int
	}{
		{"abcabcab", 3, 5, 3},
		{"abcabcab", 0, 0, 0},
		{"abcabcab", 8, 0, 0},
		{"abcabcab", 6, 0, 0}, // two bytes are too few
		{"abcabcabc", 6, 3, 3},
		{"abcXabcYabc", 8, 3, 4},   // the least distance of two
		{"abcdXabcYabcd", 9, 4, 9}, // the greater length ahead of the least distance
		{"aaaa", 1, 3, 1},
		{"aaa", 1, 0, 0},
		{"", 0, 0, 0},
		{"a", 1, 0, 0},
		{"a", 0, 0, 0},
	}
	for _, c := range cases {
		if n, d := impl.MatchAt([]byte(c.data), c.at); n != c.length || d != c.distance {
			t.Errorf("MatchAt(%q, %d) is %d, %d", c.data, c.at, n, d)
		}
	}
	for name, data := range dataOfAllKinds() {
		step := 1 + len(data)/97
		for at := 0; at <= len(data); at += step {
			n, d := impl.MatchAt(data, at)
			if wantN, wantD := matchAsTold(data, at); n != wantN || d != wantD {
				t.Fatalf("%s at %d: %d, %d, not %d, %d", name, at, n, d, wantN, wantD)
			}
		}
	}
	long := bytes.Repeat([]byte{1}, 300)
	if n, d := impl.MatchAt(long, 40); n != 258 || d != 1 {
		t.Error("258 at most:", n, d)
	}
}

func TestMatchAtElsewhere(t *testing.T) {
	data := []byte("aaaaaaaa")
	for _, at := range []int{-1, math.MinInt, 9, 10, math.MaxInt} {
		if n, d := impl.MatchAt(data, at); n != 0 || d != 0 {
			t.Errorf("at %d: %d, %d", at, n, d)
		}
	}
	if n, d := impl.MatchAt(data[:4:8], 5); n != 0 || d != 0 {
		t.Error("what lies behind the length is read:", n, d)
	}
	if n, d := impl.MatchAt(data[:5], 1); n != 4 || d != 1 {
		t.Error("what lies behind the length is read:", n, d)
	}
	if n, d := impl.MatchAt(tooMuch()[:impl.MaxData], 5000); n != 258 || d != 1 {
		t.Error("MaxData bytes:", n, d)
	}
	if n, d := impl.MatchAt(tooMuch(), 5000); n != 0 || d != 0 {
		t.Error("one more than MaxData:", n, d)
	}
}

func TestTooMuchIsNotPacked(t *testing.T) {
	for name, pack := range map[string]func([]byte) ([]byte, bool){
		"PackStoredOf": impl.PackStoredOf, "PackFixedOf": impl.PackFixedOf, "PackBest": impl.PackBest,
	} {
		if got, ok := pack(tooMuch()); ok || len(got) != 0 {
			t.Error(name, len(got), ok)
		}
		if got, ok := pack(tooMuch()[:impl.MaxData]); !ok || len(got) == 0 {
			t.Error(name, len(got), ok)
		}
	}
}

// completeRow splits codes in two until there are count of them, and puts noughts between.
func completeRow(d *dice, count int) []int {
	row := []int{1, 1}
	for len(row) < count {
		k := d.below(len(row))
		if row[k] < 15 {
			row[k]++
			row = append(row, row[k])
		}
	}
	for range d.below(20) {
		row = append(row, 0)
	}
	for k := range row {
		other := d.below(len(row))
		row[k], row[other] = row[other], row[k]
	}
	return row
}

func codeText(code, length int) string {
	s := strconv.FormatInt(int64(code), 2)
	for len(s) < length {
		s = "0" + s
	}
	return s
}

func TestCodesOfCompleteRows(t *testing.T) {
	d := dice(9)
	for range 300 {
		row := completeRow(&d, 2+d.below(270))
		codes, ok := impl.CodesOf(row)
		if !ok || len(codes) != len(row) {
			t.Fatalf("%v: %v %t", row, codes, ok)
		}
		for a := range row {
			if row[a] == 0 {
				if codes[a] != 0 {
					t.Fatalf("what has no length has the code %d", codes[a])
				}
				continue
			}
			for b := range row {
				if a == b || row[b] == 0 {
					continue
				}
				x, y := codeText(codes[a], row[a]), codeText(codes[b], row[b])
				if len(x) != row[a] || len(x) <= len(y) && y[:len(x)] == x {
					t.Fatalf("%v: %s of %d is the beginning of %s of %d", row, x, a, y, b)
				}
				// By length and then by number: read as parts of one, codes rise so.
				if (row[a] < row[b] || row[a] == row[b] && a < b) && codes[a]<<(15-row[a]) >= codes[b]<<(15-row[b]) {
					t.Fatalf("%v: %s of %d is not ahead of %s of %d", row, x, a, y, b)
				}
			}
		}
	}
}

func TestCodesOfAsTheRfcTells(t *testing.T) {
	codes, ok := impl.CodesOf([]int{3, 3, 3, 3, 3, 2, 4, 4})
	if !ok || !slices.Equal(codes, []int{2, 3, 4, 5, 6, 0, 14, 15}) {
		t.Error(codes, ok)
	}
	deep := []int{1, 2, 3, 4, 5, 6, 7, 8, 9, 10, 11, 12, 13, 14, 15, 15}
	codes, ok = impl.CodesOf(deep)
	if !ok || codes[0] != 0 || codes[13] != 1<<14-2 || codes[14] != 1<<15-2 || codes[15] != 1<<15-1 {
		t.Error(codes, ok)
	}
	fixed := slices.Concat(slices.Repeat([]int{8}, 144), slices.Repeat([]int{9}, 112), slices.Repeat([]int{7}, 24), slices.Repeat([]int{8}, 8))
	codes, ok = impl.CodesOf(fixed)
	if !ok || codes[0] != 48 || codes[143] != 191 || codes[144] != 400 || codes[255] != 511 || codes[256] != 0 || codes[279] != 23 || codes[280] != 192 || codes[287] != 199 {
		t.Error(codes, ok)
	}
	most := make([]int, 300)
	most[0], most[299] = 1, 1
	codes, ok = impl.CodesOf(most)
	if !ok || len(codes) != 300 || codes[0] != 0 || codes[299] != 1 {
		t.Error(codes, ok)
	}
}

func TestCodesOfOtherRows(t *testing.T) {
	twoAnd := func(more ...int) []int { return append([]int{1, 1}, more...) }
	many := make([]int, 301)
	many[0], many[1] = 1, 1
	for _, row := range [][]int{
		nil, {}, {0}, {0, 0, 0}, {1}, {0, 1, 0}, {15}, {1, 2}, {2, 2, 2}, {1, 1, 1}, {1, 2, 2, 15}, {1, 2, 3, 4},
		twoAnd(-1), twoAnd(16), twoAnd(math.MinInt), twoAnd(math.MaxInt), twoAnd(15), {-1, -1}, {16}, many, make([]int, 300),
		slices.Repeat([]int{15}, 300),
	} {
		if codes, ok := impl.CodesOf(row); ok || len(codes) != 0 {
			t.Errorf("%v: %v, %t", row, codes, ok)
		}
	}
}

func TestPackingWritesIntoNoArgument(t *testing.T) {
	row := []int{2, 1, 3, 3, 77, 88}
	codes, _ := impl.CodesOf(row[:4])
	codes[0] = 99
	if !slices.Equal(row, []int{2, 1, 3, 3, 77, 88}) {
		t.Error(row)
	}
	again, _ := impl.CodesOf(row[:4])
	if !slices.Equal(again, []int{2, 0, 6, 7}) {
		t.Error(again)
	}
	for name, call := range map[string]func([]byte) []byte{
		"PackStoredOf": func(b []byte) []byte { out, _ := impl.PackStoredOf(b); return out },
		"PackFixedOf":  func(b []byte) []byte { out, _ := impl.PackFixedOf(b); return out },
		"PackBest":     func(b []byte) []byte { out, _ := impl.PackBest(b); return out },
		"MatchAt":      func(b []byte) []byte { impl.MatchAt(b, 4); return nil },
		"Unpack":       func(b []byte) []byte { out, _, _ := impl.Unpack(b); return out },
	} {
		checkApart(t, name, []byte("some bytes, some bytes and so on, some bytes"), call)
		stored, _ := impl.PackStoredOf([]byte("some bytes"))
		checkApart(t, name, stored, call)
	}
}

// checkApart asks that a call leaves its bytes alone, also those behind their length, and answers memory of its own.
func checkApart(t *testing.T, name string, b []byte, call func([]byte) []byte) {
	t.Helper()
	whole := append(slices.Clone(b), "behind it"...)
	before := slices.Clone(whole)
	first := call(whole[:len(b)])
	kept := slices.Clone(first)
	for k := range first {
		first[k] ^= 255
	}
	for k := range cap(first) - len(first) {
		first[:cap(first)][len(first)+k] = 255
	}
	if !bytes.Equal(whole, before) {
		t.Errorf("%s writes into its argument, or answers its memory", name)
	}
	if again := call(whole[:len(b)]); !bytes.Equal(again, kept) {
		t.Errorf("%s answers otherwise the second time", name)
	}
}
