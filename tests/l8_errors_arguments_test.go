package tests

import (
	"slices"
	"testing"

	"loop.example/g00294/impl"
)

func requireNoGenerator(t *testing.T, wrong int) {
	t.Helper()
	if got, ok := impl.GeneratorOf(wrong); len(got) != 0 || ok {
		t.Errorf("GeneratorOf %d: %v, %v", wrong, got, ok)
	}
}

func requireNotCoded(t *testing.T, data []byte, wrong int) {
	t.Helper()
	if got, ok := impl.EncodeWord(data, wrong); len(got) != 0 || ok {
		t.Errorf("EncodeWord of %v with %d: %v, %v", data, wrong, got, ok)
	}
}

func requireNoDistance(t *testing.T, a, b []byte) {
	t.Helper()
	if got, ok := impl.DistanceOf(a, b); got != 0 || ok {
		t.Errorf("DistanceOf %v and %v: %d, %v", a, b, got, ok)
	}
}

func requireNoLocator(t *testing.T, s []byte) {
	t.Helper()
	if got, ok := impl.LocatorOf(s); len(got) != 0 || ok {
		t.Errorf("LocatorOf %v: %v, %v", s, got, ok)
	}
}

func requireNotCorrected(t *testing.T, w []byte, wrong int) {
	t.Helper()
	if got, n, ok := impl.CorrectWord(w, wrong); len(got) != 0 || n != 0 || ok {
		t.Errorf("CorrectWord of %v with %d: %v, %d, %v", w, wrong, got, n, ok)
	}
}

func requireNoWordData(t *testing.T, w []byte, wrong int) {
	t.Helper()
	if got, ok := impl.DataOf(w, wrong); len(got) != 0 || ok {
		t.Errorf("DataOf %v with %d: %v, %v", w, wrong, got, ok)
	}
}

// requireBadWord checks that no function takes these bytes as a word.
func requireBadWord(t *testing.T, w []byte, wrong int) {
	t.Helper()
	if got, ok := impl.SyndromesOf(w, wrong); len(got) != 0 || ok {
		t.Errorf("SyndromesOf %v with %d: %v, %v", w, wrong, got, ok)
	}
	if got, ok := impl.IsWord(w, wrong); got || ok {
		t.Errorf("IsWord of %v with %d: %v, %v", w, wrong, got, ok)
	}
	requireNotCorrected(t, w, wrong)
	requireNoWordData(t, w, wrong)
}

// requireGoodWord checks that every function takes these bytes, and DataOf if they are a code word.
func requireGoodWord(t *testing.T, w []byte, wrong int) {
	t.Helper()
	syndromes := longSyndromes(w, wrong)
	requireSyndromes(t, w, wrong, syndromes)
	requireIsWord(t, w, wrong, isZero(syndromes))
	if isZero(syndromes) {
		requireCorrected(t, w, wrong, w, 0)
		requireWordData(t, w, wrong, w[2*wrong:])
	} else {
		requireFailsOrCodeWord(t, w, wrong)
		requireNoWordData(t, w, wrong)
	}
}

func badWrongs() []int {
	return append(unusualInts(), -5, -4, -2, 0, 5, 6, 8, 9, 12, 24, 255)
}

func TestInvalidWrong(t *testing.T) {
	for _, wrong := range badWrongs() {
		requireNoGenerator(t, wrong)
		for size := range impl.MaxWord + 3 {
			requireNotCoded(t, mixedBytes(size, 1), wrong)
			requireBadWord(t, mixedBytes(size, 1), wrong)
			requireBadWord(t, make([]byte, size), wrong)
		}
		requireNotCoded(t, nil, wrong)
		requireBadWord(t, nil, wrong)
	}
	for wrong := 1; wrong <= 4; wrong++ {
		if got, ok := impl.GeneratorOf(wrong); !ok || len(got) != 2*wrong+1 {
			t.Errorf("GeneratorOf %d: %v, %v", wrong, got, ok)
		}
	}
}

// The words of the next greater t, which is too great, are not taken.
func TestWordsOfTheFirstInvalidWrong(t *testing.T) {
	for count := 1; count <= 14; count++ {
		word := longWord(mixedBytes(count, 1), 5)
		requireBadWord(t, word, 5)
		requireIsWord(t, word, 4, true)
		requireNotCoded(t, mixedBytes(count, 1), 5)
	}
}

func TestNumbersOfData(t *testing.T) {
	for wrong := 1; wrong <= 4; wrong++ {
		for count := range 30 {
			for _, data := range [][]byte{mixedBytes(count, 2), make([]byte, count)} {
				if count < 1 || count > 24-2*wrong {
					requireNotCoded(t, data, wrong)
				} else if got := coded(t, data, wrong); !slices.Equal(got, longWord(data, wrong)) {
					t.Errorf("EncodeWord of %v with %d: %v", data, wrong, got)
				}
			}
		}
		requireNotCoded(t, nil, wrong)
		requireNotCoded(t, mixedBytes(256, 1), wrong)
		requireNotCoded(t, mixedBytes(257, 1), wrong)
		requireNotCoded(t, make([]byte, 10000), wrong)
	}
	for _, c := range []wordShape{{1, 22}, {2, 20}, {3, 18}, {4, 16}} {
		if len(coded(t, make([]byte, c.count), c.wrong)) != impl.MaxWord {
			t.Errorf("EncodeWord of %d bytes with %d does not fill a word", c.count, c.wrong)
		}
		requireNotCoded(t, make([]byte, c.count+1), c.wrong)
	}
}

func TestSizesOfWords(t *testing.T) {
	for wrong := 1; wrong <= 4; wrong++ {
		for size := range 30 {
			for _, w := range [][]byte{make([]byte, size), mixedBytes(size, 1), steppedBytes(size, 1, 1)} {
				if size < 2*wrong+1 || size > 24 {
					requireBadWord(t, w, wrong)
				} else {
					requireGoodWord(t, w, wrong)
				}
			}
		}
		requireBadWord(t, nil, wrong)
		requireBadWord(t, make([]byte, 256+2*wrong+1), wrong)
		requireBadWord(t, make([]byte, 10000), wrong)
		// Multiples of the generator that are too long are no code words.
		requireGoodWord(t, longPolyProduct(longGenerator(wrong), mixedBytes(24-2*wrong, 1)), wrong)
		requireBadWord(t, longPolyProduct(longGenerator(wrong), mixedBytes(25-2*wrong, 1)), wrong)
		requireBadWord(t, longPolyProduct(longGenerator(wrong), mixedBytes(100, 1)), wrong)
	}
}

// Zeros count as bytes of a word too.
func TestWordsOfZeros(t *testing.T) {
	for _, s := range allWordShapes() {
		requireGoodWord(t, make([]byte, s.size()), s.wrong)
		requireWordData(t, make([]byte, s.size()), s.wrong, make([]byte, s.count))
	}
}

func TestNumbersOfDistances(t *testing.T) {
	for first := range 28 {
		for second := range 28 {
			a, b := mixedBytes(first, 1), make([]byte, second)
			if first != second || first > 24 {
				requireNoDistance(t, a, b)
				requireNoDistance(t, make([]byte, first), b)
				continue
			}
			requireDistance(t, make([]byte, first), b, 0)
			requireDistance(t, steppedBytes(first, 1, 1), b, first)
		}
	}
	for _, none := range [][]byte{nil, {}, make([]byte, 0, 5)} {
		requireDistance(t, none, nil, 0)
		requireDistance(t, nil, none, 0)
		requireNoDistance(t, none, []byte{0})
		requireNoDistance(t, []byte{0}, none)
	}
	requireNoDistance(t, make([]byte, 256), make([]byte, 256))
	requireNoDistance(t, make([]byte, 10000), make([]byte, 10000))
	requireNoDistance(t, make([]byte, 256), nil)
	requireNoDistance(t, make([]byte, 280), make([]byte, 24))
}

func TestNumbersOfSyndromes(t *testing.T) {
	for count := range 30 {
		for _, s := range [][]byte{make([]byte, count), mixedBytes(count, 1), steppedBytes(count, 1, 0)} {
			if count%2 == 1 || count > 8 {
				requireNoLocator(t, s)
			} else {
				requireLocatorOf(t, s)
			}
		}
	}
	for _, none := range [][]byte{nil, {}, make([]byte, 0, 5)} {
		requireLocator(t, none, []byte{1})
	}
	requireNoLocator(t, make([]byte, 256))
	requireNoLocator(t, make([]byte, 257))
	requireNoLocator(t, make([]byte, 264))
	requireNoLocator(t, make([]byte, 10000))
}

func TestDataOfBytesThatAreNoWord(t *testing.T) {
	for _, s := range allWordShapes() {
		word := longWord(mixedBytes(s.count, 5), s.wrong)
		for count := 1; count <= s.wrong+2; count++ {
			for _, positions := range positionLists(s.size(), min(count, 2*s.wrong)) {
				requireNoWordData(t, changedAt(word, positions, 4), s.wrong)
			}
		}
	}
}

func testWords() [][]byte {
	word := longWord([]byte("hello"), 2)
	return [][]byte{
		nil, {}, {0}, {1, 2}, {0, 0, 0}, {15, 6, 1}, word, changedAt(word, []int{0}, 1), changedAt(word, []int{2, 8}, 1),
		changedAt(word, []int{2, 4, 8}, 1), longWord(mixedBytes(16, 1), 4), changedAt(longWord(mixedBytes(16, 1), 4), []int{0, 9, 11, 23}, 1),
		mixedBytes(8, 1), mixedBytes(9, 1), mixedBytes(24, 1), mixedBytes(25, 1), make([]byte, 24), make([]byte, 25),
	}
}

func TestWordArgumentsAreNotModified(t *testing.T) {
	for _, first := range testWords() {
		w, memory := roomy(first, spare)
		requireKeptList(t, memory, func() {
			for wrong := -1; wrong <= 6; wrong++ {
				impl.EncodeWord(w, wrong)
				impl.SyndromesOf(w, wrong)
				impl.IsWord(w, wrong)
				impl.CorrectWord(w, wrong)
				impl.DataOf(w, wrong)
			}
			impl.LocatorOf(w)
			impl.DistanceOf(w, w)
		})
		for _, second := range testWords() {
			other, otherMemory := roomy(second, spare)
			requireKeptList(t, memory, func() {
				requireKeptList(t, otherMemory, func() { impl.DistanceOf(w, other) })
			})
		}
	}
	for count := range 10 {
		for _, s := range [][]byte{mixedBytes(count, 1), make([]byte, count), steppedBytes(count, 1, 0), steppedBytes(count, 0, 1)} {
			syndromes, memory := roomy(s, spare)
			requireKeptList(t, memory, func() { impl.LocatorOf(syndromes) })
		}
	}
}

// What stands behind a list would change its result, or make it valid or invalid, if it were read.
func TestSpareWordBytesAreNotRead(t *testing.T) {
	for _, behind := range []byte{0, 1, spare} {
		for _, s := range allWordShapes() {
			data, _ := roomy(mixedBytes(s.count, 1), behind)
			if got := coded(t, data, s.wrong); !slices.Equal(got, longWord(mixedBytes(s.count, 1), s.wrong)) {
				t.Errorf("EncodeWord of %v with %d: %v", data, s.wrong, got)
			}
			word, _ := roomy(longWord(data, s.wrong), behind)
			requireGoodWord(t, word, s.wrong)
			wrong, _ := roomy(changedAt(word, positionLists(s.size(), s.wrong)[2], 1), behind)
			requireCorrected(t, wrong, s.wrong, word, s.wrong)
			requireNoDistance(t, word, append(slices.Clone(word), behind))
			requireDistance(t, word, wrong, s.wrong)
		}
		for wrong := 1; wrong <= impl.MaxWrong; wrong++ {
			short, _ := roomy(make([]byte, 2*wrong), behind)
			requireBadWord(t, short, wrong)
			none, _ := roomy([]byte{}, behind)
			requireNotCoded(t, none, wrong)
		}
		for count := 0; count <= 2*impl.MaxWrong; count += 2 {
			syndromes, _ := roomy(mixedBytes(count, 1), behind)
			requireLocatorOf(t, syndromes)
			odd, _ := roomy(mixedBytes(count+1, 1), behind)
			requireNoLocator(t, odd)
		}
	}
}

// Two arguments may be one list, or lie behind or over each other.
func TestWordsThatShareMemory(t *testing.T) {
	word := longWord([]byte("hello"), 2)
	memory := slices.Concat(word, changedAt(word, []int{1, 5}, 1))
	requireKeptList(t, memory, func() {
		requireDistance(t, memory[:9], memory[9:], 2)
		requireDistance(t, memory[9:], memory[:9], 2)
		requireDistance(t, memory, memory, 0)
		requireNoDistance(t, memory, memory[:9])
		requireDistance(t, []byte{1, 1, 2, 2}[:3], []byte{1, 1, 2, 2}[1:], 1)
		requireCorrected(t, memory[9:], 2, word, 2)
		requireGoodWord(t, memory[:9], 2)
	})
	same := []byte{1, 1, 2, 2}
	requireDistance(t, same[:3], same[1:], 1)
}

func TestWordResultsShareNoMemory(t *testing.T) {
	for _, s := range allWordShapes() {
		data, dataMemory := roomy(mixedBytes(s.count, 1), spare)
		requireOwnList(t, func() ([]byte, bool) { return impl.GeneratorOf(s.wrong) }, dataMemory)
		requireOwnList(t, func() ([]byte, bool) { return impl.EncodeWord(data, s.wrong) }, dataMemory)
		right := longWord(data, s.wrong)
		for count := range s.wrong + 1 {
			w, memory := roomy(changedAt(right, positionLists(s.size(), count)[2], 1), spare)
			corrected := func() ([]byte, bool) {
				word, _, ok := impl.CorrectWord(w, s.wrong)
				return word, ok
			}
			requireOwnList(t, corrected, memory)
			requireOwnList(t, func() ([]byte, bool) { return impl.SyndromesOf(w, s.wrong) }, memory)
			if count == 0 {
				requireOwnList(t, func() ([]byte, bool) { return impl.DataOf(w, s.wrong) }, memory)
			}
			syndromes, syndromeMemory := roomy(longSyndromes(w, s.wrong), spare)
			requireOwnList(t, func() ([]byte, bool) { return impl.LocatorOf(syndromes) }, syndromeMemory)
		}
	}
	requireOwnList(t, func() ([]byte, bool) { return impl.LocatorOf(nil) }, []byte{})
}

func TestWordCallsKeepNoState(t *testing.T) {
	word := longWord([]byte("hello"), 2)
	wrong := changedAt(word, []int{0, 5}, 1)
	for range 2 {
		requireNoGenerator(t, 5)
		requireNotCoded(t, nil, 2)
		requireBadWord(t, word, 5)
		requireBadWord(t, word[:4], 2)
		requireNotCorrected(t, bytesWith([]byte{1, 1, 1, 9}, 9), 2)
		requireNoLocator(t, word)
		requireIsWord(t, word, 2, true)
		requireIsWord(t, wrong, 2, false)
		requireCorrected(t, wrong, 2, word, 2)
		requireCorrected(t, word, 2, word, 0)
		requireWordData(t, word, 2, []byte("hello"))
		requireNoWordData(t, wrong, 2)
		requireLocator(t, longSyndromes(wrong, 2), longLocator([]int{0, 5}))
		if got := coded(t, []byte("hello"), 2); !slices.Equal(got, word) {
			t.Errorf("EncodeWord: %v", got)
		}
	}
}
