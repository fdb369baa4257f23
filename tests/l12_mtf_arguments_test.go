package tests

import (
	"math"
	"slices"
	"strings"
	"testing"

	"loop.example/g00294/impl"
)

// requireNotMoved checks that no function takes this text.
func requireNotMoved(t *testing.T, text string) {
	t.Helper()
	if got, ok := impl.MoveFront(text); len(got) != 0 || ok {
		t.Errorf("MoveFront of %q: %v, %v", text, got, ok)
	}
	if got, ok := impl.RunsOf(text); len(got) != 0 || ok {
		t.Errorf("RunsOf %q: %v, %v", text, got, ok)
	}
}

// requireNoIndexes checks that no function takes this list of bytes.
func requireNoIndexes(t *testing.T, l []byte) {
	t.Helper()
	if got, ok := impl.MoveBack(l); got != "" || ok {
		t.Errorf("MoveBack of %v: %q, %v", l, got, ok)
	}
	for _, below := range append(unusualInts(), 0, 1, 128, 255, 256) {
		requireNotSmall(t, l, below)
	}
}

func requireNotSmall(t *testing.T, l []byte, below int) {
	t.Helper()
	if got, ok := impl.SmallIn(l, below); got != 0 || ok {
		t.Errorf("SmallIn %v below %d: %d, %v", l, below, got, ok)
	}
}

func requireBadRuns(t *testing.T, l []impl.Run) {
	t.Helper()
	if impl.GoodRuns(l) {
		t.Errorf("GoodRuns of %v is true", l)
	}
	if got, ok := impl.TextOf(l); got != "" || ok {
		t.Errorf("TextOf %v: %q, %v", l, got, ok)
	}
	if got, ok := impl.PackRuns(l); got != "" || ok {
		t.Errorf("PackRuns of %v: %q, %v", l, got, ok)
	}
}

func requireNotUnpacked(t *testing.T, packed string) {
	t.Helper()
	if got, ok := impl.UnpackRuns(packed); len(got) != 0 || ok {
		t.Errorf("UnpackRuns of %q: %v, %v", packed, got, ok)
	}
}

func TestTheEmptyTextAndList(t *testing.T) {
	requireMoved(t, "", nil)
	requireRuns(t, "", nil)
	requireUnpacked(t, "", nil)
	for _, none := range [][]byte{nil, {}, make([]byte, 0, 5)} {
		requireMovedBack(t, none, "")
		for below := range 257 {
			requireSmall(t, none, below, 0)
		}
		for _, below := range unusualInts() {
			if below != 256 {
				requireNotSmall(t, none, below)
			}
		}
	}
	for _, none := range [][]impl.Run{nil, {}, make([]impl.Run, 0, 5)} {
		requireGoodRuns(t, none)
	}
}

func TestMovedTextsOfOneByte(t *testing.T) {
	for b := range 256 {
		text := string([]byte{byte(b)})
		requireMoved(t, text, []byte{byte(b)})
		requireMovedBack(t, []byte{byte(b)}, text)
		requireRuns(t, text, []impl.Run{{Byte: byte(b), Long: 1}})
		requireGoodRuns(t, []impl.Run{{Byte: byte(b), Long: 1}})
		requirePacked(t, []impl.Run{{Byte: byte(b), Long: 1}}, text)
		requireUnpacked(t, text, []impl.Run{{Byte: byte(b), Long: 1}})
		requireNotUnpacked(t, text+text)
	}
}

func TestLengthsOfMovedTexts(t *testing.T) {
	for _, length := range []int{198, 199, 200} {
		for _, text := range append(textsOfLength(length), differentTexts(length)...) {
			requireMoved(t, text, longRecency(text))
			requireMovedBack(t, []byte(text), longMovedBack([]byte(text)))
			requireMovedBack(t, longRecency(text), text)
			requireRunsOfText(t, text)
			requireSmall(t, []byte(text), 256, length)
		}
	}
	for _, length := range []int{201, 202, 255, 256, 257, 400, 456, 1000} {
		for _, text := range append(textsOfLength(length), differentTexts(length)...) {
			requireNotMoved(t, text)
			requireNoIndexes(t, []byte(text))
			requireBadRuns(t, longRunsOf(text))
			// Of the counts that do not fit, the lower byte may make the encoding of other runs.
			requireUnpackedAsPacked(t, longPacked(longRunsOf(text)))
		}
		requireNoIndexes(t, make([]byte, length))
		requireNoIndexes(t, steppedBytes(length, 255, 0))
	}
	requireNotUnpacked(t, strings.Repeat("ab", 1<<20))
	requireNotUnpacked(t, strings.Repeat("aa\xc6", 1<<20))
}

// Bytes are counted, not characters.
func TestMovedTextsOfCharacters(t *testing.T) {
	for _, c := range []struct {
		character string
		most      int
	}{{"é", 100}, {"日", 66}, {"𝟎", 50}} {
		text := strings.Repeat(c.character, c.most)
		requireMoved(t, text, longRecency(text))
		requireRunsOfText(t, text)
		requireNotMoved(t, text+c.character)
	}
}

func TestSumsOfLongs(t *testing.T) {
	for count := 1; count <= impl.MaxMoved; count++ {
		l := make([]impl.Run, count)
		for i := range l {
			l[i] = impl.Run{Byte: byte(i), Long: 1}
		}
		requireGoodRuns(t, l)
		for _, place := range []int{0, count / 2, count - 1} {
			l[place].Long = impl.MaxMoved - count + 1
			requireGoodRuns(t, l)
			for _, long := range []int{impl.MaxMoved - count + 2, impl.MaxMoved + 1, 0, -1, math.MaxInt, math.MinInt} {
				l[place].Long = long
				requireBadRuns(t, l)
			}
			l[place].Long = 1
		}
	}
	requireBadRuns(t, longRunsOf(strings.Repeat("ab", 101)[:201]))
	requireBadRuns(t, longRunsOf(strings.Repeat("ab", 128)))
	// The most runs with a count, and so the longest encoding.
	pairs := longRunsOf(strings.Repeat("aabb", 50))
	requireGoodRuns(t, pairs)
	if packed, _ := impl.PackRuns(pairs); len(packed) != 300 {
		t.Errorf("PackRuns of %v has %d bytes", pairs, len(packed))
	}
	requireNotUnpacked(t, longPacked(pairs)+"a")
	requireNotUnpacked(t, longPacked(pairs)+"aa\x00")
}

func TestLongsOfOneRun(t *testing.T) {
	for _, b := range []byte{0, 'a', 255} {
		for _, long := range append(unusualInts(), -3, -2, -1, 0, 201, 202, 255, 256, 456, 1<<31, 1<<32+2, 1<<62) {
			requireBadRuns(t, []impl.Run{{Byte: b, Long: long}})
			requireBadRuns(t, []impl.Run{{Byte: b, Long: long}, {Byte: b + 1, Long: 1}})
			requireBadRuns(t, []impl.Run{{Byte: b, Long: 1}, {Byte: b + 1, Long: long}})
			requireBadRuns(t, []impl.Run{{Byte: b, Long: 1}, {Byte: b + 1, Long: long}, {Byte: b, Long: 1}})
		}
		for _, long := range []int{1, 2, 3, 199, 200} {
			requireGoodRuns(t, []impl.Run{{Byte: b, Long: long}})
		}
	}
}

// The sums of these are small, but only with an overflow or with a negative Long.
func TestLongsThatOverflow(t *testing.T) {
	for _, longs := range [][]int{
		{math.MaxInt, math.MaxInt}, {math.MaxInt, math.MaxInt, 2}, {math.MaxInt, math.MaxInt, 3}, {math.MaxInt, 1, math.MaxInt, 1},
		{math.MaxInt, 1}, {1, math.MaxInt}, {100, math.MaxInt, math.MaxInt, 3}, {math.MaxInt, math.MaxInt, 102},
		{1 << 62, 1 << 62, 1 << 62, 1 << 62}, {1 << 62, 1 << 62, 1 << 62, 1 << 62, 5}, {1 << 63 >> 1, 1 << 62, 1 << 62, 1 << 62, 200},
		{math.MaxInt, -math.MaxInt, 1}, {math.MaxInt, math.MinInt, 2}, {-5, 6}, {6, -5}, {-100, 200, 100}, {201, -1}, {300, -200, 1},
		{math.MinInt, math.MinInt}, {math.MinInt, math.MinInt, 1}, {1, math.MinInt, math.MinInt}, {math.MinInt, math.MaxInt, 2},
		{math.MinInt}, {-1}, {0}, {0, 1}, {1, 0}, {200, 0}, {0, 200}, {1, 0, 1}, {1 << 32, 1}, {1, 1<<32 + 1}, {256}, {1, 256},
	} {
		l := make([]impl.Run, len(longs))
		for i, long := range longs {
			l[i] = impl.Run{Byte: byte(i), Long: long}
		}
		requireBadRuns(t, l)
		slices.Reverse(l)
		requireBadRuns(t, l)
	}
}

func TestBytesOfAdjacentRuns(t *testing.T) {
	for _, b := range []byte{0, 1, 'a', 127, 128, 254, 255} {
		other := b ^ 0x80
		for _, long := range []int{1, 2, 3, 50} {
			requireBadRuns(t, []impl.Run{{Byte: b, Long: long}, {Byte: b, Long: 1}})
			requireBadRuns(t, []impl.Run{{Byte: b, Long: 1}, {Byte: b, Long: long}})
			requireBadRuns(t, []impl.Run{{Byte: other, Long: 1}, {Byte: b, Long: long}, {Byte: b, Long: long}})
			requireBadRuns(t, []impl.Run{{Byte: b, Long: long}, {Byte: b, Long: long}, {Byte: other, Long: 1}})
			requireGoodRuns(t, []impl.Run{{Byte: b, Long: long}, {Byte: other, Long: long}, {Byte: b, Long: long}})
			requireGoodRuns(t, []impl.Run{{Byte: b, Long: 1}, {Byte: b + 1, Long: long}, {Byte: b, Long: long}, {Byte: b + 1, Long: 1}})
		}
	}
	for first := range 256 {
		for second := range 256 {
			requireRunsAsGood(t, []impl.Run{{Byte: byte(first), Long: 1}, {Byte: byte(second), Long: 2}})
		}
	}
}

func TestEncodingsThatEndEarly(t *testing.T) {
	for _, b := range []byte{0, 'a', 127, 128, 255} {
		one := string([]byte{b})
		other := string([]byte{b + 1})
		requireUnpacked(t, one, []impl.Run{{Byte: b, Long: 1}})
		requireNotUnpacked(t, one+one)
		requireUnpacked(t, one+one+"\x00", []impl.Run{{Byte: b, Long: 2}})
		requireUnpacked(t, one+one+"\x01", []impl.Run{{Byte: b, Long: 3}})
		requireUnpacked(t, one+one+"\xc6", []impl.Run{{Byte: b, Long: 200}})
		requireNotUnpacked(t, one+one+"\xc7")
		requireNotUnpacked(t, one+one+"\xff")
		requireNotUnpacked(t, one+one+"\x00"+one)
		requireNotUnpacked(t, one+one+"\x00"+one+one)
		requireNotUnpacked(t, one+one+"\x00"+one+one+"\x00")
		requireUnpacked(t, other+one, []impl.Run{{Byte: b + 1, Long: 1}, {Byte: b, Long: 1}})
		requireNotUnpacked(t, other+one+one)
		requireUnpacked(t, other+one+one+"\x00", []impl.Run{{Byte: b + 1, Long: 1}, {Byte: b, Long: 2}})
		requireUnpacked(t, one+one+"\x00"+other+one, []impl.Run{{Byte: b, Long: 2}, {Byte: b + 1, Long: 1}, {Byte: b, Long: 1}})
	}
}

func TestSumsOfEncodings(t *testing.T) {
	for count := range 199 {
		first := "aa" + string([]byte{byte(count)})
		rest := impl.MaxMoved - count - 2
		if rest > 1 {
			most := first + "bb" + string([]byte{byte(rest - 2)})
			requireUnpacked(t, most, []impl.Run{{Byte: 'a', Long: count + 2}, {Byte: 'b', Long: rest}})
			requireNotUnpacked(t, most+"c")
			requireNotUnpacked(t, "c"+most)
			requireNotUnpacked(t, first+"bb"+string([]byte{byte(rest - 1)}))
		}
	}
	requireUnpacked(t, "b"+"aa\xc5", []impl.Run{{Byte: 'b', Long: 1}, {Byte: 'a', Long: 199}})
	requireNotUnpacked(t, "b"+"aa\xc6")
	requireUnpacked(t, strings.Repeat("ab", 100), longRunsOf(strings.Repeat("ab", 100)))
	requireNotUnpacked(t, strings.Repeat("ab", 100)+"a")
	requireNotUnpacked(t, strings.Repeat("ab", 128))
	requireNotUnpacked(t, strings.Repeat("aa\xfebb\xfe", 100))
	requireNotUnpacked(t, "aa\xffbb\xff")
}

func TestBoundsOfSmallBytes(t *testing.T) {
	for _, length := range []int{0, 1, 2, 199, 200} {
		l := steppedBytes(length, 255, 255)
		requireSmall(t, l, 0, 0)
		requireSmall(t, l, 256, length)
		for _, below := range []int{math.MinInt, -256, -255, -2, -1, 257, 258, 511, 512, 513, 1 << 32, 1<<32 + 1, math.MaxInt} {
			requireNotSmall(t, l, below)
		}
	}
	for _, length := range []int{201, 202, 256, 456, 1000} {
		for _, below := range []int{-1, 0, 1, 255, 256, 257} {
			requireNotSmall(t, steppedBytes(length, 255, 255), below)
		}
	}
}

func testIndexLists() [][]byte {
	return [][]byte{
		nil, {}, {0}, {255}, {97, 0, 98}, {255, 255, 0, 1, 255}, mixedBytes(50, 1), mixedBytes(199, 1), mixedBytes(200, 1), mixedBytes(201, 1),
		make([]byte, 200), make([]byte, 201), steppedBytes(200, 255, 0),
	}
}

func testRunLists() [][]impl.Run {
	return [][]impl.Run{
		nil, {}, {{}}, {{Byte: 'a', Long: 4}, {Byte: 'b', Long: 1}}, {{Byte: 'a', Long: 1}, {Byte: 'a', Long: 1}}, {{Byte: 0, Long: 200}},
		{{Byte: 0, Long: 201}}, {{Byte: 5, Long: -1}}, {{Byte: 1, Long: math.MaxInt}, {Byte: 2, Long: math.MaxInt}, {Byte: 3, Long: 3}},
		longRunsOf(string(mixedBytes(200, 2))), longRunsOf(string(mixedBytes(201, 2))), longRunsOf(strings.Repeat("aabb", 50)),
	}
}

func TestMovedArgumentsAreNotModified(t *testing.T) {
	for _, list := range testIndexLists() {
		l, memory := roomy(list, spare)
		requireKeptList(t, memory, func() {
			impl.MoveBack(l)
			for below := -1; below <= 257; below++ {
				impl.SmallIn(l, below)
			}
		})
	}
	for _, list := range testRunLists() {
		l, memory := roomy(list, impl.Run{Byte: 77, Long: 1})
		requireKeptList(t, memory, func() {
			impl.GoodRuns(l)
			impl.TextOf(l)
			impl.PackRuns(l)
		})
	}
}

// What stands behind a list would change its result, or make it invalid, if it were read.
func TestSpareRunsAndIndexesAreNotRead(t *testing.T) {
	for _, behind := range []byte{0, 1, 255} {
		for _, length := range movedLengths() {
			l, _ := roomy(mixedBytes(length, 1), behind)
			requireMovedBack(t, l, longMovedBack(mixedBytes(length, 1)))
			requireSmall(t, l, 256, length)
		}
	}
	for _, text := range movedTexts() {
		for _, behind := range []impl.Run{{}, {Byte: 'a', Long: 1}, {Byte: 'b', Long: 201}, {Byte: 0, Long: -1}} {
			l, _ := roomy(longRunsOf(text), behind)
			requireGoodRuns(t, l)
		}
	}
}

func TestMovedListsShareNoMemory(t *testing.T) {
	for _, text := range append(movedTexts(), "a", "aab", "aaaab") {
		bytes := []byte(text)
		requireOwnList(t, func() ([]byte, bool) { return impl.MoveFront(text) }, bytes)
		requireOwnList(t, func() ([]impl.Run, bool) { return impl.RunsOf(text) }, bytes)
		packed := longPacked(longRunsOf(text))
		requireOwnList(t, func() ([]impl.Run, bool) { return impl.UnpackRuns(packed) }, []byte(packed))
	}
}

// The runs of a text of different bytes have the text as their encoding, so that it could be handed back.
func TestMovedTextsShareNoMemory(t *testing.T) {
	for _, text := range movedTexts() {
		bytes := []byte(text)
		runs := longRunsOf(text)
		back, ok := impl.MoveBack(bytes)
		again, _ := impl.MoveBack(bytes)
		written, writtenOk := impl.TextOf(runs)
		packed, packedOk := impl.PackRuns(runs)
		packedAgain, _ := impl.PackRuns(runs)
		writtenAgain, _ := impl.TextOf(runs)
		if !ok || !writtenOk || !packedOk {
			t.Fatalf("MoveBack of %v, or TextOf or PackRuns of %v, fails", bytes, runs)
		}
		kept := strings.Clone(back)
		clear(bytes)
		clear(runs)
		if back != kept || written != text || packed != longPacked(longRunsOf(text)) {
			t.Errorf("MoveBack, TextOf or PackRuns of %q changes with its argument", text)
		}
		if len(text) < 2 {
			// The texts of one byte are not made anew by the language itself.
			continue
		}
		requireApart(t, "TextOf and PackRuns", []string{written, packed}, []string{text})
		requireApart(t, "MoveBack", []string{back}, []string{again, written, packed})
		requireApart(t, "TextOf", []string{written}, []string{writtenAgain, packed})
		if len(packed) > 1 {
			requireApart(t, "PackRuns", []string{packed}, []string{packedAgain})
		}
	}
}

// Texts that are parts of a longer one are not read beyond their ends.
func TestPartsOfMovedTexts(t *testing.T) {
	for _, whole := range movedTexts() {
		for _, ends := range [][]int{{0, len(whole) / 2}, {len(whole) / 3, len(whole)}, {len(whole) / 4, len(whole) / 2}} {
			text := whole[ends[0]:ends[1]]
			requireMoved(t, text, longRecency(text))
			requireRuns(t, text, longRunsOf(text))
			requireUnpackedAsPacked(t, text)
		}
	}
	requireNotUnpacked(t, "aa\x00"[:2])
	requireUnpacked(t, "aa\x00"[:1], []impl.Run{{Byte: 'a', Long: 1}})
}

func TestMovedCallsKeepNoState(t *testing.T) {
	runs := []impl.Run{{Byte: 'a', Long: 4}, {Byte: 'b', Long: 1}}
	for range 3 {
		requireNotMoved(t, strings.Repeat("ab", 101))
		requireNoIndexes(t, make([]byte, 201))
		requireBadRuns(t, []impl.Run{{Byte: 'a', Long: 201}})
		requireNotUnpacked(t, "aa")
		requireNotSmall(t, []byte{1}, 257)
		requireMoved(t, "aab", []byte{97, 0, 98})
		requireMovedBack(t, []byte{97, 0, 98}, "aab")
		requireGoodRuns(t, runs)
		requireRuns(t, "aaaab", runs)
		requirePacked(t, runs, "aa\x02b")
		requireSmall(t, []byte{97, 0, 98}, 98, 2)
		requireMoved(t, "", nil)
	}
}
