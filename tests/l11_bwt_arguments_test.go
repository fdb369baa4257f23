package tests

import (
	"strings"
	"testing"

	"loop.example/g00294/impl"
)

// requireNotTurned checks that no function takes this text.
func requireNotTurned(t *testing.T, text string) {
	t.Helper()
	if got, ok := impl.TurnsOf(text); len(got) != 0 || ok {
		t.Errorf("TurnsOf %q: %v, %v", text, got, ok)
	}
	if got, at, ok := impl.Transform(text); got != "" || at != 0 || ok {
		t.Errorf("Transform of %q: %q, %d, %v", text, got, at, ok)
	}
	if got, ok := impl.FirstColumn(text); got != "" || ok {
		t.Errorf("FirstColumn of %q: %q, %v", text, got, ok)
	}
	if got, ok := impl.NextOf(text); len(got) != 0 || ok {
		t.Errorf("NextOf %q: %v, %v", text, got, ok)
	}
	if got, ok := impl.RunsIn(text); got != 0 || ok {
		t.Errorf("RunsIn %q: %d, %v", text, got, ok)
	}
	for _, index := range append(unusualInts(), 0, 1, 60, 119, 120, 121, len(text)-1, len(text)) {
		requireNotRestored(t, text, index)
		requireNotRotated(t, text, index)
	}
	for _, length := range []int{0, 1, 2, 119, 120, 121, len(text) - 1, len(text)} {
		if length <= len(text) {
			requireNoPatternCount(t, text, text[:length])
		}
	}
	requireNoPatternCount(t, text, "x")
	requireNoPatternCount(t, text, text+"x")
}

func requireNotRotated(t *testing.T, text string, by int) {
	t.Helper()
	if got, ok := impl.RotateText(text, by); got != "" || ok {
		t.Errorf("RotateText of %q by %d: %q, %v", text, by, got, ok)
	}
}

func requireNoPatternCount(t *testing.T, text, pattern string) {
	t.Helper()
	if got, ok := impl.CountPattern(text, pattern); got != 0 || ok {
		t.Errorf("CountPattern of %q with %q: %d, %v", text, pattern, got, ok)
	}
}

func TestTheEmptyText(t *testing.T) {
	requireTurns(t, "", nil)
	requireTransform(t, "", "", 0)
	requireRestored(t, "", 0, "")
	requireColumn(t, "", "")
	requireNext(t, "", nil)
	requireRunCount(t, "", 0)
	requireRotated(t, "", 0, "")
	for _, index := range append(unusualInts(), -2, 1, 2) {
		requireNotRestored(t, "", index)
		requireNotRotated(t, "", index)
	}
	for _, pattern := range []string{"", "a", "\x00", "ab", strings.Repeat("a", 120), strings.Repeat("a", 121)} {
		requireNoPatternCount(t, "", pattern)
	}
}

func TestTextsOfOneByte(t *testing.T) {
	for b := range 256 {
		text := string([]byte{byte(b)})
		other := string([]byte{byte(b + 1)})
		requireTurns(t, text, []int{0})
		requireTransform(t, text, text, 0)
		requireRestored(t, text, 0, text)
		requireColumn(t, text, text)
		requireNext(t, text, []int{0})
		requireRunCount(t, text, 1)
		requireRotated(t, text, 0, text)
		requirePatternCount(t, text, text, 1)
		requirePatternCount(t, text, other, 0)
		for _, index := range append(unusualInts(), -2, 1, 2) {
			requireNotRestored(t, text, index)
			requireNotRotated(t, text, index)
		}
		for _, pattern := range []string{"", text + text, text + other, other + text} {
			requireNoPatternCount(t, text, pattern)
		}
	}
}

func TestLengthsOfTurnedTexts(t *testing.T) {
	for _, length := range []int{118, 119, 120} {
		for _, text := range textsOfLength(length) {
			made := longTransform(text)
			requireTurns(t, text, longTurns(text))
			requireTransform(t, text, made.last, made.at)
			requireRestored(t, made.last, made.at, text)
			requireColumn(t, text, sortedBytes(text))
			requireNext(t, text, longNext(text))
			requireRunCount(t, text, longRunCount(text))
			requireRotated(t, text, length-1, longRotations(text)[length-1])
			requirePatternCount(t, text, text, longPatternCount(text, text))
			requireNoPatternCount(t, text, text+text[:1])
		}
	}
	for _, length := range []int{121, 122, 240, 256, 257, 376, 1000} {
		for _, text := range textsOfLength(length) {
			requireNotTurned(t, text)
		}
	}
}

// Bytes are counted, not characters.
func TestTurnedTextsOfCharacters(t *testing.T) {
	for _, c := range []struct {
		character string
		most      int
	}{{"é", 60}, {"日", 40}, {"𝟎", 30}} {
		text := strings.Repeat(c.character, c.most)
		made := longTransform(text)
		requireTransform(t, text, made.last, made.at)
		requireRestored(t, made.last, made.at, text)
		requireRunCount(t, text, 120)
		requirePatternCount(t, text, c.character, c.most)
		requireRotated(t, text, 119, text[119:]+text[:119])
		requireNotTurned(t, text+"a")
		requireNotTurned(t, text+c.character)
	}
}

func TestIndexesOfRotations(t *testing.T) {
	for _, length := range turnLengths()[1:] {
		for _, text := range textsOfLength(length) {
			made := longTransform(text)
			requireRotated(t, text, 0, text)
			requireRotated(t, text, length-1, longRotations(text)[length-1])
			for _, index := range append(unusualInts(), -2, -length, length, length+1, 2*length, 120, 121) {
				if index >= 0 && index < length {
					continue
				}
				requireNotRotated(t, text, index)
				requireNotRestored(t, made.last, index)
				requireNotRestored(t, text, index)
			}
		}
	}
}

func TestIndexesOfRestoredTexts(t *testing.T) {
	requireNotRestored(t, "nnbaaa", -1)
	requireRestored(t, "nnbaaa", 0, "abanan")
	requireRestored(t, "nnbaaa", 1, "anaban")
	requireRestored(t, "nnbaaa", 2, "ananab")
	requireRestored(t, "nnbaaa", 3, "banana")
	requireRestored(t, "nnbaaa", 4, "nabana")
	requireRestored(t, "nnbaaa", 5, "nanaba")
	requireNotRestored(t, "nnbaaa", 6)
	requireNotRestored(t, "nnbaaa", 7)
}

func TestLengthsOfPatterns(t *testing.T) {
	for _, length := range turnLengths() {
		for _, text := range textsOfLength(length) {
			requireNoPatternCount(t, text, "")
			for _, more := range []int{1, 2, length, 256} {
				if more > 0 {
					requireNoPatternCount(t, text, (text + text + strings.Repeat("a", 256))[:length+more])
				}
			}
		}
	}
	for size := range 130 {
		pattern := strings.Repeat("a", size)
		for _, length := range []int{0, 1, 2, 60, 119, 120} {
			text := strings.Repeat("a", length)
			if size >= 1 && size <= length {
				requirePatternCount(t, text, pattern, length)
			} else {
				requireNoPatternCount(t, text, pattern)
			}
		}
	}
}

func TestTurnListsShareNoMemory(t *testing.T) {
	for _, length := range turnLengths() {
		for _, text := range textsOfLength(length) {
			requireOwnList(t, func() ([]int, bool) { return impl.TurnsOf(text) }, []byte(text))
			requireOwnList(t, func() ([]int, bool) { return impl.NextOf(text) }, []byte(text))
		}
	}
}

// Results can be equal to their arguments, and so could be handed back in their memory.
func TestTurnedTextsShareNoMemory(t *testing.T) {
	for _, length := range turnLengths() {
		for _, text := range textsOfLength(length) {
			text := strings.Clone(text)
			last, at, _ := impl.Transform(text)
			column, _ := impl.FirstColumn(text)
			sorted, _ := impl.FirstColumn(column)
			back, ok := impl.Restore(last, at)
			if !ok {
				t.Fatalf("Restore of %q at %d fails", last, at)
			}
			requireApart(t, "Transform and FirstColumn", []string{last, column}, []string{text})
			if length < 2 {
				// The texts of one byte are not made anew by the language itself.
				continue
			}
			requireApart(t, "FirstColumn", []string{sorted}, []string{column})
			requireApart(t, "Restore", []string{back}, []string{last})
			for by := 0; by < length; by += max(1, length/3) {
				rotation, _ := impl.RotateText(text, by)
				again, _ := impl.RotateText(text, by)
				requireApart(t, "RotateText", []string{rotation}, []string{text, again})
			}
		}
	}
}

// Texts that are parts of a longer one are not read beyond their ends.
func TestPartsOfTexts(t *testing.T) {
	for _, whole := range longTexts() {
		for _, ends := range [][]int{{0, len(whole) / 2}, {len(whole) / 3, len(whole)}, {len(whole) / 4, len(whole) / 2}} {
			text := whole[ends[0]:ends[1]]
			made := longTransform(text)
			requireTransform(t, text, made.last, made.at)
			requireNext(t, text, longNext(text))
			requireRunCount(t, text, longRunCount(text))
			if text != "" {
				requirePatternCount(t, text, whole[ends[0]:ends[0]+1], strings.Count(text, text[:1]))
			}
		}
	}
}

func TestTurnCallsKeepNoState(t *testing.T) {
	for range 3 {
		requireNotTurned(t, strings.Repeat("ab", 61))
		requireNotRestored(t, "banana", 0)
		requireNotRotated(t, "banana", 6)
		requireNoPatternCount(t, "banana", "")
		requireTurns(t, "banana", []int{5, 3, 1, 0, 4, 2})
		requireTransform(t, "banana", "nnbaaa", 3)
		requireRestored(t, "nnbaaa", 3, "banana")
		requireColumn(t, "banana", "aaabnn")
		requireNext(t, "nnbaaa", []int{3, 4, 5, 2, 0, 1})
		requireRunCount(t, "nnbaaa", 3)
		requireRotated(t, "banana", 1, "ananab")
		requirePatternCount(t, "banana", "an", 2)
		requireTransform(t, "", "", 0)
	}
}
