package tests

import (
	"math"
	"math/big"
	"slices"
	"strings"
	"testing"

	"loop.example/g00294/impl"
)

func distinctBytes(text string) int {
	count := 0
	for b := range 256 {
		if strings.IndexByte(text, byte(b)) >= 0 {
			count++
		}
	}
	return count
}

// longRecency counts the bytes in front of each byte: those that came since it last did and, if it is
// new, also the smaller ones that never came.
func longRecency(text string) []byte {
	indexes := make([]byte, len(text))
	for i := range indexes {
		last := strings.LastIndexByte(text[:i], text[i])
		index := distinctBytes(text[last+1 : i])
		for b := range int(text[i]) {
			if last < 0 && strings.IndexByte(text[:i], byte(b)) < 0 {
				index++
			}
		}
		indexes[i] = byte(index)
	}
	return indexes
}

// longMovedBack takes each byte out of a list of all 256 and puts it back at the front.
func longMovedBack(l []byte) string {
	list := steppedBytes(256, 0, 1)
	var text []byte
	for _, index := range l {
		b := list[index]
		list = slices.Insert(slices.Delete(list, int(index), int(index)+1), 0, b)
		text = append(text, b)
	}
	return string(text)
}

func longRunsOf(text string) []impl.Run {
	var runs []impl.Run
	for text != "" {
		run := impl.Run{Byte: text[0]}
		for text != "" && text[0] == run.Byte {
			run.Long++
			text = text[1:]
		}
		runs = append(runs, run)
	}
	return runs
}

func longTextOf(l []impl.Run) string {
	var text string
	for _, run := range l {
		text += strings.Repeat(string([]byte{run.Byte}), run.Long)
	}
	return text
}

func longGoodRuns(l []impl.Run) bool {
	sum := new(big.Int)
	for i, run := range l {
		if run.Long <= 0 || i+1 < len(l) && l[i+1].Byte == run.Byte {
			return false
		}
		sum.Add(sum, big.NewInt(int64(run.Long)))
	}
	return sum.Cmp(big.NewInt(200)) <= 0
}

func longPacked(l []impl.Run) string {
	var packed []byte
	for _, run := range l {
		if run.Long == 1 {
			packed = append(packed, run.Byte)
		} else {
			packed = append(packed, run.Byte, run.Byte, byte(run.Long-2))
		}
	}
	return string(packed)
}

// runsPackedAs tries both kinds of encodings for each run, and returns all valid runs with an encoding.
func runsPackedAs(packed string) [][]impl.Run {
	var found [][]impl.Run
	var try func(l []impl.Run, rest string)
	try = func(l []impl.Run, rest string) {
		if rest == "" {
			if longGoodRuns(l) {
				found = append(found, l)
			}
			return
		}
		if len(l) > 0 && l[len(l)-1].Byte == rest[0] {
			return
		}
		longs := []int{1}
		if len(rest) > 2 {
			longs = append(longs, 2+int(rest[2]))
		}
		for _, long := range longs {
			run := impl.Run{Byte: rest[0], Long: long}
			if after, ok := strings.CutPrefix(rest, longPacked([]impl.Run{run})); ok {
				try(append(slices.Clone(l), run), after)
			}
		}
	}
	try(nil, packed)
	return found
}

// movedTexts returns texts of several lengths, up to MaxMoved: equal, periodic, mixed and different bytes.
func movedTexts() []string {
	var texts []string
	for _, length := range movedLengths() {
		texts = append(texts, textsOfLength(length)...)
		texts = append(texts, differentTexts(length)...)
		texts = append(texts, mixedOf("\x00\x7f\x80\xff", length, 7), mixedOf("\x80\xff", length, 8), mixedOf("abcdefghijklmnop", length, 9))
		for _, pattern := range []string{"\x00\x7f\x80\xff", "\xff\x80\x7f\x00", "\x00\x00\x7f\x80\x80\xff", "\xff\xff\x00"} {
			texts = append(texts, strings.Repeat(pattern, length)[:length])
		}
	}
	return texts
}

// differentTexts returns texts in which no byte occurs twice.
func differentTexts(length int) []string {
	var texts []string
	for _, first := range []byte{0, 56, 127, 128, 200, 255} {
		for _, step := range []byte{1, 3, 101, 255} {
			texts = append(texts, string(steppedBytes(length, first, step)))
		}
	}
	return texts
}

func movedLengths() []int {
	return []int{0, 1, 2, 3, 4, 5, 6, 7, 8, 9, 12, 16, 31, 50, 99, 100, 101, 127, 128, 129, 150, 198, 199, 200}
}

func requireMoved(t *testing.T, text string, want []byte) {
	t.Helper()
	if got, ok := impl.MoveFront(text); !slices.Equal(got, want) || !ok {
		t.Fatalf("MoveFront of %q: %v, %v, want %v", text, got, ok, want)
	}
}

func requireMovedBack(t *testing.T, l []byte, want string) {
	t.Helper()
	if got, ok := impl.MoveBack(l); got != want || !ok {
		t.Fatalf("MoveBack of %v: %q, %v, want %q", l, got, ok, want)
	}
}

func requireRuns(t *testing.T, text string, want []impl.Run) {
	t.Helper()
	if got, ok := impl.RunsOf(text); !slices.Equal(got, want) || !ok {
		t.Fatalf("RunsOf %q: %v, %v, want %v", text, got, ok, want)
	}
}

func requireTextOfRuns(t *testing.T, l []impl.Run, want string) {
	t.Helper()
	if got, ok := impl.TextOf(l); got != want || !ok {
		t.Fatalf("TextOf %v: %q, %v, want %q", l, got, ok, want)
	}
}

func requirePacked(t *testing.T, l []impl.Run, want string) {
	t.Helper()
	if got, ok := impl.PackRuns(l); got != want || !ok {
		t.Fatalf("PackRuns of %v: %q, %v, want %q", l, got, ok, want)
	}
}

func requireUnpacked(t *testing.T, packed string, want []impl.Run) {
	t.Helper()
	if got, ok := impl.UnpackRuns(packed); !slices.Equal(got, want) || !ok {
		t.Fatalf("UnpackRuns of %q: %v, %v, want %v", packed, got, ok, want)
	}
}

func requireSmall(t *testing.T, l []byte, below, want int) {
	t.Helper()
	if got, ok := impl.SmallIn(l, below); got != want || !ok {
		t.Fatalf("SmallIn %v below %d: %d, %v, want %d", l, below, got, ok, want)
	}
}

// requireRunsOfText follows the runs of a text through all functions and back.
func requireRunsOfText(t *testing.T, text string) {
	t.Helper()
	runs := longRunsOf(text)
	requireRuns(t, text, runs)
	requireGoodRuns(t, runs)
}

// requireGoodRuns checks valid runs and what the functions make of them.
func requireGoodRuns(t *testing.T, l []impl.Run) {
	t.Helper()
	if !impl.GoodRuns(l) {
		t.Fatalf("GoodRuns of %v is false", l)
	}
	text, packed := longTextOf(l), longPacked(l)
	requireTextOfRuns(t, l, text)
	requireRuns(t, text, l)
	requirePacked(t, l, packed)
	requireUnpacked(t, packed, l)
}

func TestExamplesOfMovedBytesAndRuns(t *testing.T) {
	requireMoved(t, "aab", []byte{97, 0, 98})
	requireMovedBack(t, []byte{97, 0, 98}, "aab")
	runs := []impl.Run{{Byte: 'a', Long: 4}, {Byte: 'b', Long: 1}}
	requireRuns(t, "aaaab", runs)
	requireTextOfRuns(t, runs, "aaaab")
	requirePacked(t, runs, "aa\x02b")
	requireUnpacked(t, "aa\x02b", runs)
	requireNotUnpacked(t, "aa")
	requireSmall(t, []byte{97, 0, 98}, 98, 2)
}

// Every text is recovered from its recency indexes.
func TestTextsAreRecoveredFromIndexes(t *testing.T) {
	for _, text := range slices.Concat(shortTexts(), movedTexts()) {
		indexes, ok := impl.MoveFront(text)
		if !ok || len(indexes) != len(text) {
			t.Fatalf("MoveFront of %q: %v, %v", text, indexes, ok)
		}
		requireMovedBack(t, indexes, text)
	}
	for length := 9; length <= 12; length++ {
		for _, text := range allTexts("\x80a", length) {
			indexes, _ := impl.MoveFront(text)
			requireMovedBack(t, indexes, text)
		}
	}
	for length := range impl.MaxMoved + 1 {
		for _, text := range append(textsOfLength(length), differentTexts(length)...) {
			indexes, _ := impl.MoveFront(text)
			requireMovedBack(t, indexes, text)
		}
	}
}

// Every list of indexes belongs to a text.
func TestIndexesAreRecoveredFromTexts(t *testing.T) {
	for first := range 256 {
		for second := range 256 {
			l := []byte{byte(first), byte(second)}
			requireMovedBack(t, l, longMovedBack(l))
			requireMoved(t, longMovedBack(l), l)
		}
	}
	for length := range 6 {
		for _, text := range allTexts("\x00\x01\x02\x80\xfe\xff", length) {
			requireMovedBack(t, []byte(text), longMovedBack([]byte(text)))
			requireMoved(t, longMovedBack([]byte(text)), []byte(text))
		}
	}
	for _, text := range movedTexts() {
		back, ok := impl.MoveBack([]byte(text))
		if !ok || back != longMovedBack([]byte(text)) {
			t.Fatalf("MoveBack of %v: %q, %v", []byte(text), back, ok)
		}
		requireMoved(t, back, []byte(text))
	}
}

func TestIndexesByRecency(t *testing.T) {
	for _, text := range slices.Concat(shortTexts(), movedTexts()) {
		requireMoved(t, text, longRecency(text))
	}
	requireMoved(t, "banana", []byte{98, 98, 110, 1, 1, 1})
	requireMoved(t, "abcabc", []byte{97, 98, 99, 2, 2, 2})
	requireMoved(t, "abcba", []byte{97, 98, 99, 1, 2})
	requireMoved(t, "cba", []byte{99, 99, 99})
	requireMoved(t, "\x00\x00\xff\xff\x00", []byte{0, 0, 255, 0, 1})
	requireMoved(t, "\x7f\x80\xff\x00", []byte{127, 128, 255, 3})
	requireMoved(t, "é", []byte{0xC3, 0xAA})
}

// Behind the first place, an index is 0 exactly if the byte equals the one before.
func TestIndexesOfEqualBytes(t *testing.T) {
	for _, text := range slices.Concat(shortTexts(), movedTexts()) {
		indexes, _ := impl.MoveFront(text)
		for i := 1; i < len(text); i++ {
			if (indexes[i] == 0) != (text[i] == text[i-1]) {
				t.Fatalf("MoveFront of %q: %v, where element %d is wrong", text, indexes, i)
			}
		}
	}
	for b := range 256 {
		text := strings.Repeat(string([]byte{byte(b)}), impl.MaxMoved)
		want := make([]byte, impl.MaxMoved)
		want[0] = byte(b)
		requireMoved(t, text, want)
		requireMovedBack(t, want, text)
	}
}

// With the index 255 the last byte of the list comes to the front, each time another one.
func TestFirstAndLastIndexes(t *testing.T) {
	requireMovedBack(t, []byte{0}, "\x00")
	requireMovedBack(t, []byte{255}, "\xff")
	requireMovedBack(t, []byte{0, 0, 0}, "\x00\x00\x00")
	requireMovedBack(t, []byte{255, 0, 1, 1}, "\xff\xff\x00\xff")
	requireMovedBack(t, []byte{255, 255, 255}, "\xff\xfe\xfd")
	requireMoved(t, "\xff\xfe\xfd", []byte{255, 255, 255})
	for length := range impl.MaxMoved + 1 {
		last := steppedBytes(length, 255, 0)
		requireMovedBack(t, last, string(steppedBytes(length, 255, 255)))
		requireMoved(t, string(steppedBytes(length, 255, 255)), last)
		requireMovedBack(t, make([]byte, length), strings.Repeat("\x00", length))
		requireMoved(t, strings.Repeat("\x00", length), make([]byte, length))
	}
}

// The byte of the first place returns to the front from as far behind as other bytes have come, up to
// the last index to which bytes of one text can push it.
func TestBytesThatReturnToTheFront(t *testing.T) {
	for others := range impl.MaxMoved - 1 {
		for _, first := range []byte{0, 127, 128, 255} {
			text := []byte{first}
			for i := range others {
				text = append(text, first+byte(i+1))
			}
			text = append(text, first)
			want := longRecency(string(text))
			if want[len(want)-1] != byte(others) {
				t.Fatalf("the byte of %q returns from %d", text, want[len(want)-1])
			}
			requireMoved(t, string(text), want)
			requireMovedBack(t, want, string(text))
		}
	}
	// 254 stands at the last index once 255 has been in front of it.
	requireMoved(t, "\xff\xfe\xff\xfe", []byte{255, 255, 1, 1})
	requireMoved(t, "\xff\x00\xfe\xfd\xff", []byte{255, 1, 255, 255, 3})
	requireMovedBack(t, []byte{255, 1, 255, 255, 3}, "\xff\x00\xfe\xfd\xff")
}

func TestTextsAreRecoveredFromRuns(t *testing.T) {
	for _, text := range slices.Concat(shortTexts(), movedTexts()) {
		runs, ok := impl.RunsOf(text)
		if !ok || !impl.GoodRuns(runs) {
			t.Fatalf("RunsOf %q: %v, %v", text, runs, ok)
		}
		requireTextOfRuns(t, runs, text)
		packed, ok := impl.PackRuns(runs)
		if !ok {
			t.Fatalf("PackRuns of %v fails", runs)
		}
		requireUnpacked(t, packed, runs)
		requireRunsOfText(t, text)
	}
	for length := 9; length <= 12; length++ {
		for _, text := range allTexts("\x00\x01", length) {
			requireRunsOfText(t, text)
		}
	}
}

// runLists returns all lists of up to some runs with these bytes and Longs, valid or not.
func runLists(letters []byte, longs []int, most int) [][]impl.Run {
	lists := [][]impl.Run{nil}
	last := lists
	for range most {
		var longer [][]impl.Run
		for _, l := range last {
			for _, b := range letters {
				for _, long := range longs {
					longer = append(longer, append(slices.Clone(l), impl.Run{Byte: b, Long: long}))
				}
			}
		}
		lists = append(lists, longer...)
		last = longer
	}
	return lists
}

// requireRunsAsGood compares GoodRuns, and what takes only valid runs, with the sum of all Longs.
func requireRunsAsGood(t *testing.T, l []impl.Run) bool {
	t.Helper()
	if longGoodRuns(l) {
		requireGoodRuns(t, l)
		return true
	}
	requireBadRuns(t, l)
	return false
}

func TestRunsAreRecoveredFromTextsAndEncodings(t *testing.T) {
	good, bad := 0, 0
	count := func(l []impl.Run) {
		if requireRunsAsGood(t, l) {
			good++
		} else {
			bad++
		}
	}
	for _, l := range runLists([]byte{0, 'a', 255}, []int{1, 2, 3}, 4) {
		count(l)
	}
	for _, l := range runLists([]byte{0, 1}, []int{-1, 0, 1, 2, 3, 98, 99, 100, 101, 102, 197, 198, 199, 200, 201}, 3) {
		count(l)
	}
	for _, l := range runLists([]byte{127, 128}, []int{math.MinInt, -200, 0, 1, 2, 199, 256, 1 << 62, math.MaxInt}, 3) {
		count(l)
	}
	for _, l := range runLists([]byte{98}, []int{0, 1, 2, 3, 100, 200, 201}, 3) {
		count(l)
	}
	if good < 2000 || bad < 2000 {
		t.Errorf("only %d runs are valid and %d are not", good, bad)
	}
}

func TestEncodingsOfRuns(t *testing.T) {
	requirePacked(t, []impl.Run{{Byte: 'a', Long: 1}}, "a")
	requirePacked(t, []impl.Run{{Byte: 'a', Long: 2}}, "aa\x00")
	requirePacked(t, []impl.Run{{Byte: 'a', Long: 3}}, "aa\x01")
	requirePacked(t, []impl.Run{{Byte: 0, Long: 2}}, "\x00\x00\x00")
	requirePacked(t, []impl.Run{{Byte: 0, Long: 2}, {Byte: 1, Long: 1}, {Byte: 0, Long: 1}}, "\x00\x00\x00\x01\x00")
	requirePacked(t, []impl.Run{{Byte: 255, Long: 200}}, "\xff\xff\xc6")
	requirePacked(t, []impl.Run{{Byte: 'a', Long: 99}, {Byte: 'b', Long: 3}, {Byte: 'a', Long: 1}}, "aaabb\x01a")
	for _, b := range []byte{0, 1, 97, 127, 128, 198, 255} {
		for long := 1; long <= impl.MaxMoved; long++ {
			requireGoodRuns(t, []impl.Run{{Byte: b, Long: long}})
			if rest := impl.MaxMoved - long; rest > 0 {
				requireGoodRuns(t, []impl.Run{{Byte: b, Long: long}, {Byte: b + 1, Long: rest}})
				requireBadRuns(t, []impl.Run{{Byte: b, Long: long}, {Byte: b + 1, Long: rest + 1}})
			}
		}
	}
}

// The count of a run may be its own byte, or that of the next run.
func TestCountsThatEqualBytes(t *testing.T) {
	for b := range 199 {
		own := impl.Run{Byte: byte(b), Long: b + 2}
		same := string([]byte{byte(b), byte(b), byte(b)})
		requireUnpacked(t, same, []impl.Run{own})
		requirePacked(t, []impl.Run{own}, same)
		if b+3 <= impl.MaxMoved {
			requireUnpacked(t, same+"\xff", []impl.Run{own, {Byte: 255, Long: 1}})
			next := impl.Run{Byte: 255, Long: b + 2}
			requireUnpacked(t, "\xff\xff"+same[:1]+same[:1], []impl.Run{next, {Byte: byte(b), Long: 1}})
		}
	}
}

// requireUnpackedAsPacked compares UnpackRuns with trying all runs.
func requireUnpackedAsPacked(t *testing.T, packed string) bool {
	t.Helper()
	found := runsPackedAs(packed)
	if len(found) > 1 {
		t.Fatalf("%q is the encoding of %v", packed, found)
	}
	if len(found) == 0 {
		requireNotUnpacked(t, packed)
		return false
	}
	requireUnpacked(t, packed, found[0])
	again, _ := impl.UnpackRuns(packed)
	requirePacked(t, again, packed)
	return true
}

func TestAllShortEncodings(t *testing.T) {
	unpacked, refused := 0, 0
	count := func(packed string) {
		if requireUnpackedAsPacked(t, packed) {
			unpacked++
		} else {
			refused++
		}
	}
	for length := range 6 {
		for _, packed := range allTexts("\x00\x01a\xc6\xc7", length) {
			count(packed)
		}
	}
	for length := range 9 {
		for _, packed := range allTexts("\x00\x02", length) {
			count(packed)
		}
	}
	for length := range 7 {
		for _, packed := range allTexts("abc", length) {
			count(packed)
		}
	}
	if unpacked < 1000 || refused < 1000 {
		t.Errorf("only %d texts are encodings and %d are not", unpacked, refused)
	}
}

func TestLongerEncodings(t *testing.T) {
	for _, text := range movedTexts() {
		packed := longPacked(longRunsOf(text))
		for _, other := range []string{text, packed, packed + "a", packed + "\x00", packed + packed} {
			requireUnpackedAsPacked(t, other)
		}
		for end := 0; end < len(packed); end += max(1, len(packed)/5) {
			requireUnpackedAsPacked(t, packed[:end])
			requireUnpackedAsPacked(t, packed[end:])
			wrong := []byte(packed)
			wrong[end]++
			requireUnpackedAsPacked(t, string(wrong))
		}
	}
}

func TestAllCounts(t *testing.T) {
	for _, b := range []byte{0, 97, 128, 255} {
		pair := string([]byte{b, b})
		other := string([]byte{b + 1})
		for count := range 256 {
			packed := pair + string([]byte{byte(count)})
			if count > 198 {
				requireNotUnpacked(t, packed)
				requireNotUnpacked(t, packed+other)
				continue
			}
			run := impl.Run{Byte: b, Long: count + 2}
			requireUnpacked(t, packed, []impl.Run{run})
			requireNotUnpacked(t, packed+pair[:1])
			requireNotUnpacked(t, packed+pair)
			requireNotUnpacked(t, packed+packed)
			if count == 198 {
				requireNotUnpacked(t, packed+other)
				requireNotUnpacked(t, other+packed)
			} else {
				requireUnpacked(t, packed+other, []impl.Run{run, {Byte: b + 1, Long: 1}})
				requireUnpacked(t, other+packed, []impl.Run{{Byte: b + 1, Long: 1}, run})
			}
		}
	}
}

func TestSmallBytes(t *testing.T) {
	for _, text := range append(movedTexts(), allTexts("\x00\x7f\x80\xff", 4)...) {
		sorted := sortedBytes(text)
		for _, below := range []int{0, 1, 2, 97, 98, 127, 128, 129, 254, 255, 256} {
			want := 0
			for want < len(sorted) && int(sorted[want]) < below {
				want++
			}
			requireSmall(t, []byte(text), below, want)
		}
		requireSmall(t, []byte(text), 0, 0)
		requireSmall(t, []byte(text), 256, len(text))
		requireSmall(t, []byte(text), 255, len(text)-strings.Count(text, "\xff"))
		requireSmall(t, []byte(text), 1, strings.Count(text, "\x00"))
	}
	for b := range 256 {
		for below := range 257 {
			want := 0
			if b < below {
				want = 1
			}
			requireSmall(t, []byte{byte(b)}, below, want)
		}
	}
}
