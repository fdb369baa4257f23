package tests

import (
	"slices"
	"strings"
	"testing"

	"loop.example/g00294/impl"
)

// longRotations writes out all rotations of a text, byte by byte.
func longRotations(text string) []string {
	rotations := make([]string, len(text))
	for k := range rotations {
		rotation := make([]byte, len(text))
		for i := range rotation {
			rotation[i] = text[(k+i)%len(text)]
		}
		rotations[k] = string(rotation)
	}
	return rotations
}

// longTurns puts each rotation behind those that are less, and behind the equal ones of smaller k.
func longTurns(text string) []int {
	rotations := longRotations(text)
	turns := make([]int, len(text))
	for k, rotation := range rotations {
		before := 0
		for j, other := range rotations {
			if other < rotation || other == rotation && j < k {
				before++
			}
		}
		turns[before] = k
	}
	return turns
}

type transform struct {
	last string
	at   int
}

func longTransform(text string) transform {
	rotations := longRotations(text)
	var made transform
	for i, k := range longTurns(text) {
		made.last += rotations[k][len(text)-1:]
		if k == 0 {
			made.at = i
		}
	}
	return made
}

// sortedBytes counts the bytes instead of comparing them.
func sortedBytes(text string) string {
	var counts [256]int
	for i := range len(text) {
		counts[text[i]]++
	}
	var column []byte
	for b, count := range counts {
		for range count {
			column = append(column, byte(b))
		}
	}
	return string(column)
}

// longNext looks for as many equal bytes in the text as stand in the column up to each index.
func longNext(text string) []int {
	column := sortedBytes(text)
	next := make([]int, len(text))
	for i := range next {
		missing := strings.Count(column[:i+1], column[i:i+1])
		for j := range len(text) {
			if text[j] == column[i] {
				missing--
			}
			if missing == 0 {
				next[i] = j
				break
			}
		}
	}
	return next
}

// longRestored follows the indexes and looks at what the text yields.
func longRestored(last string, at int) (string, bool) {
	next := longNext(last)
	var text string
	for index := at; len(text) < len(last); {
		index = next[index]
		text += last[index : index+1]
	}
	if longTransform(text) != (transform{last, at}) {
		return "", false
	}
	return text, true
}

func longRunCount(text string) int {
	runs := 0
	for text != "" {
		first := text[:1]
		for strings.HasPrefix(text, first) {
			text = text[1:]
		}
		runs++
	}
	return runs
}

func longPatternCount(text, pattern string) int {
	count := 0
	for k := range len(text) {
		equal := true
		for i := range len(pattern) {
			equal = equal && text[(k+i)%len(text)] == pattern[i]
		}
		if equal {
			count++
		}
	}
	return count
}

// allTexts returns the texts of a length whose bytes are these letters.
func allTexts(letters string, length int) []string {
	texts := []string{""}
	for range length {
		var longer []string
		for _, text := range texts {
			for i := range len(letters) {
				longer = append(longer, text+letters[i:i+1])
			}
		}
		texts = longer
	}
	return texts
}

// shortTexts returns all texts of up to some length over one, two and three letters.
func shortTexts() []string {
	var texts []string
	for length := range 9 {
		for _, letters := range []string{"ab", "\x00\xff", "\x7f\x80"} {
			texts = append(texts, allTexts(letters, length)...)
		}
	}
	for length := range 7 {
		for _, letters := range []string{"abc", "\x00a\xff", "\x01\x80\xfe"} {
			texts = append(texts, allTexts(letters, length)...)
		}
	}
	return texts
}

// textsOfLength returns texts of equal bytes, periodic ones, some that are nearly so, and mixed ones.
func textsOfLength(length int) []string {
	var texts []string
	for _, pattern := range []string{
		"a", "\x00", "\xff", "\x80", "ab", "ba", "\x00\xff", "\xff\x00", "aab", "cba", "abaab", "aabbab", "0123456789", "é", "naïve ",
	} {
		texts = append(texts, strings.Repeat(pattern, length)[:length])
	}
	for place := 0; place < length; place += max(1, length/3) {
		for _, change := range []byte{1, 0x80, 0xff} {
			equal := slices.Repeat([]byte{'m'}, length)
			equal[place] += change
			texts = append(texts, string(equal))
		}
	}
	for seed := range 3 {
		mixed := mixedBytes(length, seed)
		texts = append(texts, string(mixed), mixedOf("ab", length, seed), mixedOf("\x00\xff", length, seed), mixedOf("acgt", length, seed))
	}
	return texts
}

func mixedOf(letters string, length, seed int) string {
	text := make([]byte, length)
	for i := range text {
		text[i] = letters[int(mixedByte(seed, i, 5))%len(letters)]
	}
	return string(text)
}

func turnLengths() []int {
	return []int{0, 1, 2, 3, 4, 5, 6, 7, 8, 9, 10, 11, 12, 15, 16, 20, 24, 30, 31, 32, 33, 59, 60, 63, 64, 65, 90, 118, 119, 120}
}

func longTexts() []string {
	texts := []string{
		"banana", "mississippi", "abracadabra", "the quick brown fox jumps over the lazy dog", "abcabcabc",
		"a\x00b\x00", "\xff\x00\xff", "z\x80y\x7f", "Ünïcödé 日本語 𝟎", "\n\r\t \x00",
	}
	for _, length := range turnLengths() {
		texts = append(texts, textsOfLength(length)...)
	}
	return texts
}

func turned(t *testing.T, text string) transform {
	t.Helper()
	last, at, ok := impl.Transform(text)
	if !ok || len(last) != len(text) {
		t.Fatalf("Transform of %q: %q, %d, %v", text, last, at, ok)
	}
	return transform{last, at}
}

func requireTurns(t *testing.T, text string, want []int) {
	t.Helper()
	if got, ok := impl.TurnsOf(text); !slices.Equal(got, want) || !ok {
		t.Fatalf("TurnsOf %q: %v, %v, want %v", text, got, ok, want)
	}
}

func requireTransform(t *testing.T, text, last string, at int) {
	t.Helper()
	if got, index, ok := impl.Transform(text); got != last || index != at || !ok {
		t.Fatalf("Transform of %q: %q, %d, %v, want %q, %d", text, got, index, ok, last, at)
	}
}

func requireRestored(t *testing.T, last string, at int, want string) {
	t.Helper()
	if got, ok := impl.Restore(last, at); got != want || !ok {
		t.Fatalf("Restore of %q at %d: %q, %v, want %q", last, at, got, ok, want)
	}
}

func requireNotRestored(t *testing.T, last string, at int) {
	t.Helper()
	if got, ok := impl.Restore(last, at); got != "" || ok {
		t.Fatalf("Restore of %q at %d: %q, %v", last, at, got, ok)
	}
}

func requireColumn(t *testing.T, text, want string) {
	t.Helper()
	if got, ok := impl.FirstColumn(text); got != want || !ok {
		t.Fatalf("FirstColumn of %q: %q, %v, want %q", text, got, ok, want)
	}
}

func requireNext(t *testing.T, text string, want []int) {
	t.Helper()
	if got, ok := impl.NextOf(text); !slices.Equal(got, want) || !ok {
		t.Fatalf("NextOf %q: %v, %v, want %v", text, got, ok, want)
	}
}

func requireRunCount(t *testing.T, text string, want int) {
	t.Helper()
	if got, ok := impl.RunsIn(text); got != want || !ok {
		t.Fatalf("RunsIn %q: %d, %v, want %d", text, got, ok, want)
	}
}

func requireRotated(t *testing.T, text string, by int, want string) {
	t.Helper()
	if got, ok := impl.RotateText(text, by); got != want || !ok {
		t.Fatalf("RotateText of %q by %d: %q, %v, want %q", text, by, got, ok, want)
	}
}

func requirePatternCount(t *testing.T, text, pattern string, want int) {
	t.Helper()
	if got, ok := impl.CountPattern(text, pattern); got != want || !ok {
		t.Fatalf("CountPattern of %q with %q: %d, %v, want %d", text, pattern, got, ok, want)
	}
}

func TestExamplesOfTurns(t *testing.T) {
	requireTransform(t, "banana", "nnbaaa", 3)
	requireRestored(t, "nnbaaa", 3, "banana")
	requireNext(t, "nnbaaa", []int{3, 4, 5, 2, 0, 1})
	requireRunCount(t, "nnbaaa", 3)
	requirePatternCount(t, "banana", "ab", 1)
	requireTurns(t, "banana", []int{5, 3, 1, 0, 4, 2})
	requireColumn(t, "banana", "aaabnn")
	requireRotated(t, "banana", 2, "nanaba")
}

// Every text is recovered from its transform.
func TestTextsAreRecovered(t *testing.T) {
	for _, text := range slices.Concat(shortTexts(), longTexts()) {
		made := turned(t, text)
		requireRestored(t, made.last, made.at, text)
	}
	for length := range impl.MaxTurn + 1 {
		for _, text := range textsOfLength(length) {
			made := turned(t, text)
			requireRestored(t, made.last, made.at, text)
		}
	}
	for length := 9; length <= 11; length++ {
		for _, text := range allTexts("ba", length) {
			made := turned(t, text)
			requireRestored(t, made.last, made.at, text)
		}
	}
}

func TestTransformsOfSortedRotations(t *testing.T) {
	for _, text := range slices.Concat(shortTexts(), longTexts()) {
		made := longTransform(text)
		requireTransform(t, text, made.last, made.at)
		requireTurns(t, text, longTurns(text))
	}
}

// The order of the rotations is told by RotateText too: by the rotations, and by k for equal ones.
func TestRotationsAreSorted(t *testing.T) {
	for _, text := range slices.Concat(shortTexts(), longTexts()) {
		turns, _ := impl.TurnsOf(text)
		made := turned(t, text)
		before, beforeK := "", -1
		for i, k := range turns {
			rotation, ok := impl.RotateText(text, k)
			if !ok || rotation < before || rotation == before && k < beforeK {
				t.Fatalf("TurnsOf %q: the rotation by %d, %q, follows %q by %d, %v", text, k, rotation, before, beforeK, ok)
			}
			if rotation[len(text)-1] != made.last[i] || k == 0 && i != made.at {
				t.Fatalf("Transform of %q: %q, %d, but %q stands at %d", text, made.last, made.at, rotation, i)
			}
			before, beforeK = rotation, k
		}
	}
}

func TestTurnsOfEqualRotations(t *testing.T) {
	requireTurns(t, "aaaa", []int{0, 1, 2, 3})
	requireTransform(t, "aaaa", "aaaa", 0)
	requireTurns(t, "abab", []int{0, 2, 1, 3})
	requireTransform(t, "abab", "bbaa", 0)
	requireTurns(t, "baba", []int{1, 3, 0, 2})
	requireTransform(t, "baba", "bbaa", 2)
	requireTurns(t, "cabcab", []int{1, 4, 2, 5, 0, 3})
	requireTransform(t, "cabcab", "ccaabb", 4)
	for length := 1; length <= impl.MaxTurn; length++ {
		turns := make([]int, length)
		for k := range turns {
			turns[k] = k
		}
		for _, b := range []string{"\x00", "a", "\xff"} {
			requireTurns(t, strings.Repeat(b, length), turns)
			requireTransform(t, strings.Repeat(b, length), strings.Repeat(b, length), 0)
		}
	}
	for half := 1; half <= impl.MaxTurn/2; half++ {
		turns := make([]int, 2*half)
		for i := range half {
			turns[i], turns[half+i] = 2*i+1, 2*i
		}
		requireTurns(t, strings.Repeat("\xff\x00", half), turns)
		requireTransform(t, strings.Repeat("\xff\x00", half), strings.Repeat("\xff", half)+strings.Repeat("\x00", half), half)
	}
}

func TestOrderOfHighBytes(t *testing.T) {
	requireTransform(t, "a\x80", "\x80a", 0)
	requireTransform(t, "\x80a", "\x80a", 1)
	requireTransform(t, "\xff\x00\x7f\x80", "\xff\x00\x7f\x80", 3)
	requireTransform(t, "é", "é", 1)
	requireTransform(t, "aéz", "z\xa9\xc3a", 0)
	requireTurns(t, "\x80\x7f\xff\x00", []int{3, 1, 0, 2})
	requireColumn(t, "\xff\x80a\x7f\x00\x80", "\x00a\x7f\x80\x80\xff")
	requireNext(t, "\xff\x80a\x7f\x00\x80", []int{4, 2, 3, 1, 5, 0})
	requireRestored(t, "é", 1, "é")
	requireRunCount(t, "éé", 4)
	requirePatternCount(t, "éé", "\xa9\xc3", 2)
	requireRotated(t, "日", 1, "\x97\xa5\xe6")
}

func TestFirstColumns(t *testing.T) {
	for _, text := range slices.Concat(shortTexts(), longTexts()) {
		requireColumn(t, text, sortedBytes(text))
		requireColumn(t, turned(t, text).last, sortedBytes(text))
	}
	all := make([]byte, impl.MaxTurn)
	for first := 0; first+impl.MaxTurn <= 256; first += 8 {
		for i := range all {
			all[i] = byte(first + i)
		}
		sorted := string(all)
		requireColumn(t, sorted, sorted)
		slices.Reverse(all)
		requireColumn(t, string(all), sorted)
	}
}

// The first bytes of the sorted rotations are the first column of the text and of its last bytes.
func TestFirstColumnsOfRotations(t *testing.T) {
	for _, text := range longTexts() {
		var want string
		for _, k := range longTurns(text) {
			want += text[k : k+1]
		}
		requireColumn(t, text, want)
		requireColumn(t, longTransform(text).last, want)
	}
}

func TestNextIndexes(t *testing.T) {
	for _, text := range slices.Concat(shortTexts(), longTexts()) {
		requireNext(t, text, longNext(text))
	}
}

// Each index is used once, its byte is that of the column, and equal bytes keep their order.
func TestBytesOfNextIndexes(t *testing.T) {
	for _, text := range slices.Concat(shortTexts(), longTexts()) {
		for _, last := range []string{text, turned(t, text).last} {
			column, _ := impl.FirstColumn(last)
			next, ok := impl.NextOf(last)
			if !ok || len(next) != len(column) {
				t.Fatalf("NextOf %q: %v, %v", last, next, ok)
			}
			used := make([]bool, len(next))
			for i, j := range next {
				if j < 0 || j >= len(next) || used[j] || last[j] != column[i] {
					t.Fatalf("NextOf %q: %v, where element %d is wrong", last, next, i)
				}
				if i > 0 && column[i] == column[i-1] && j < next[i-1] {
					t.Fatalf("NextOf %q: %v, where equal bytes do not keep their order at %d", last, next, i)
				}
				used[j] = true
			}
		}
	}
}

// From the row of each rotation, NextOf leads to the row of the rotation by one byte more.
func TestNextRotations(t *testing.T) {
	for _, text := range longTexts() {
		turns := longTurns(text)
		rotations := longRotations(text)
		next, _ := impl.NextOf(turned(t, text).last)
		for i, k := range turns {
			if want := rotations[(k+1)%len(text)]; rotations[turns[next[i]]] != want {
				t.Fatalf("NextOf the transform of %q: from %q to %q", text, rotations[k], rotations[turns[next[i]]])
			}
		}
	}
}

// requireAllRestores tries all texts and all indexes against the transforms of all texts.
func requireAllRestores(t *testing.T, letters string, length int) {
	t.Helper()
	texts := allTexts(letters, length)
	from := map[transform]string{}
	for _, text := range texts {
		from[longTransform(text)] = text
	}
	if len(from) != len(texts) {
		t.Fatalf("two texts of %d letters have the same transform", length)
	}
	for _, last := range texts {
		for at := -1; at <= length+1; at++ {
			if text, found := from[transform{last, at}]; found {
				requireRestored(t, last, at, text)
			} else {
				requireNotRestored(t, last, at)
			}
		}
	}
}

func TestAllShortRestores(t *testing.T) {
	for length := range 10 {
		requireAllRestores(t, "ab", length)
		requireAllRestores(t, "\x00\xff", length)
	}
	for length := range 7 {
		requireAllRestores(t, "abc", length)
		requireAllRestores(t, "\x7f\x80\xff", length)
	}
	for length := range 5 {
		requireAllRestores(t, "dcba", length)
	}
}

// At another index stands another rotation; of equal ones only the first has this index.
func TestRestoresAtOtherIndexes(t *testing.T) {
	for _, text := range longTexts() {
		made := longTransform(text)
		rotations := longRotations(text)
		turns := longTurns(text)
		for at, k := range turns {
			if at > 0 && rotations[turns[at-1]] == rotations[k] {
				requireNotRestored(t, made.last, at)
			} else {
				requireRestored(t, made.last, at, rotations[k])
			}
		}
	}
}

// The texts are taken for transforms; most of them are none.
func TestRestoresOfOtherTexts(t *testing.T) {
	restored, refused := 0, 0
	for _, last := range longTexts() {
		for _, at := range []int{0, 1, len(last) / 3, len(last) / 2, len(last) - 1} {
			if at < 0 || at >= len(last) {
				continue
			}
			if want, ok := longRestored(last, at); ok {
				requireRestored(t, last, at, want)
				restored++
			} else {
				requireNotRestored(t, last, at)
				refused++
			}
		}
	}
	if restored < 100 || refused < 100 {
		t.Errorf("only %d texts are restored and %d are not", restored, refused)
	}
}

func TestTextsThatAreNoTransforms(t *testing.T) {
	for _, last := range []string{"ab", "aab", "abc", "abbb", "banana", "ananab", "abab", "bab", "\x00\xff", "abcdefgh"} {
		for at := -1; at <= len(last); at++ {
			requireNotRestored(t, last, at)
		}
	}
	requireRestored(t, "bbaa", 0, "abab")
	requireNotRestored(t, "bbaa", 1)
	requireRestored(t, "bbaa", 2, "baba")
	requireNotRestored(t, "bbaa", 3)
	requireRestored(t, "aaaa", 0, "aaaa")
	for at := 1; at < 4; at++ {
		requireNotRestored(t, "aaaa", at)
	}
}

// A transform with two bytes exchanged is mostly none, whatever the index.
func TestRestoresOfSpoiledTransforms(t *testing.T) {
	for _, text := range []string{"banana", "mississippi", "abracadabra", mixedOf("ab", 40, 1), mixedOf("acgt", 120, 2), string(mixedBytes(120, 1))} {
		last := []byte(longTransform(text).last)
		for i := 0; i+1 < len(last); i += max(1, len(last)/12) {
			wrong := slices.Clone(last)
			wrong[i], wrong[i+1] = wrong[i+1], wrong[i]
			for at := range wrong {
				if want, ok := longRestored(string(wrong), at); ok {
					requireRestored(t, string(wrong), at, want)
				} else {
					requireNotRestored(t, string(wrong), at)
				}
			}
		}
	}
}

func TestNumbersOfTurnedRuns(t *testing.T) {
	requireRunCount(t, "a", 1)
	requireRunCount(t, "aa", 1)
	requireRunCount(t, "ab", 2)
	requireRunCount(t, "aba", 3)
	requireRunCount(t, "abba", 3)
	requireRunCount(t, "\x00\x00\x80\x00\xff\xff", 4)
	for _, text := range slices.Concat(shortTexts(), longTexts()) {
		requireRunCount(t, text, longRunCount(text))
	}
	for length := 1; length <= impl.MaxTurn; length++ {
		requireRunCount(t, strings.Repeat("\x00", length), 1)
		requireRunCount(t, strings.Repeat("\x00\xff", length)[:length], length)
	}
}

func TestRotatedTexts(t *testing.T) {
	for _, text := range slices.Concat(shortTexts(), longTexts()) {
		for by, want := range longRotations(text) {
			requireRotated(t, text, by, want)
		}
	}
}

func TestRotationsOfRotations(t *testing.T) {
	for _, text := range longTexts() {
		for by := 0; by < len(text); by += max(1, len(text)/5) {
			first, _ := impl.RotateText(text, by)
			requireRotated(t, first, (len(text)-by)%len(text), text)
			requireRotated(t, first, len(text)-1, longRotations(text)[(by+len(text)-1)%len(text)])
		}
	}
}

// All rotations have the same last bytes, each with an index of its own rotation.
func TestTransformsOfRotations(t *testing.T) {
	for _, text := range slices.Concat(shortTexts(), longTexts()) {
		made := turned(t, text)
		for by := 0; by < len(text); by += max(1, len(text)/7) {
			rotation, _ := impl.RotateText(text, by)
			other := turned(t, rotation)
			if other.last != made.last || other.at == made.at && rotation != text {
				t.Fatalf("Transform of %q: %+v, of %q: %+v", text, made, rotation, other)
			}
		}
	}
}

// patternsIn returns patterns of a text that it has, around the end too, and changed ones.
func patternsIn(text string) []string {
	var patterns []string
	for _, length := range []int{1, 2, 3, 5, len(text) / 2, len(text) - 1, len(text)} {
		if length < 1 || length > len(text) {
			continue
		}
		for _, k := range []int{0, 1, len(text) / 3, len(text) - length, len(text) - 1} {
			if k >= len(text) {
				continue
			}
			pattern := []byte(longRotations(text)[k][:length])
			patterns = append(patterns, string(pattern))
			pattern[length-1]++
			patterns = append(patterns, string(pattern))
			pattern[length-1]--
			pattern[0] ^= 0x80
			patterns = append(patterns, string(pattern))
		}
	}
	return patterns
}

func TestCountedPatterns(t *testing.T) {
	for length := 1; length <= 7; length++ {
		for _, text := range allTexts("ab", length) {
			for size := 1; size <= length; size++ {
				for _, pattern := range allTexts("ab", size) {
					requirePatternCount(t, text, pattern, longPatternCount(text, pattern))
				}
			}
		}
	}
	for length := 1; length <= 4; length++ {
		for _, text := range allTexts("\x00\x80\xff", length) {
			for size := 1; size <= length; size++ {
				for _, pattern := range allTexts("\x00\x80\xff", size) {
					requirePatternCount(t, text, pattern, longPatternCount(text, pattern))
				}
			}
		}
	}
	for _, text := range longTexts() {
		for _, pattern := range patternsIn(text) {
			requirePatternCount(t, text, pattern, longPatternCount(text, pattern))
		}
	}
}

func TestPatternsInRotations(t *testing.T) {
	for length := 1; length <= 6; length++ {
		for _, text := range allTexts("ab", length) {
			for size := 1; size <= length; size++ {
				for _, pattern := range allTexts("ab", size) {
					requireSameCounts(t, text, pattern, 1)
				}
			}
		}
	}
	for _, text := range longTexts() {
		for _, pattern := range patternsIn(text) {
			requireSameCounts(t, text, pattern, max(1, len(text)/4))
		}
	}
}

func requireSameCounts(t *testing.T, text, pattern string, step int) {
	t.Helper()
	want, ok := impl.CountPattern(text, pattern)
	if !ok {
		t.Fatalf("CountPattern of %q with %q fails", text, pattern)
	}
	for by := 0; by < len(text); by += step {
		rotation, _ := impl.RotateText(text, by)
		requirePatternCount(t, rotation, pattern, want)
	}
}

// Together all patterns of one length occur at all positions.
func TestPatternsAtAllPositions(t *testing.T) {
	for length := 1; length <= 8; length++ {
		for _, text := range allTexts("ab", length) {
			for size := 1; size <= length; size++ {
				sum := 0
				for _, pattern := range allTexts("ab", size) {
					count, _ := impl.CountPattern(text, pattern)
					sum += count
				}
				if sum != length {
					t.Fatalf("CountPattern of %q with all of %d letters: %d", text, size, sum)
				}
			}
		}
	}
}

func TestPatternsThatOverlapOrPassTheEnd(t *testing.T) {
	requirePatternCount(t, "banana", "ana", 2)
	requirePatternCount(t, "banana", "a", 3)
	requirePatternCount(t, "banana", "nab", 1)
	requirePatternCount(t, "banana", "nanab", 1)
	requirePatternCount(t, "banana", "aba", 1)
	requirePatternCount(t, "banana", "aa", 0)
	requirePatternCount(t, "banana", "x", 0)
	requirePatternCount(t, "abab", "aba", 2)
	requirePatternCount(t, "abab", "abab", 2)
	requirePatternCount(t, "abab", "baba", 2)
	requirePatternCount(t, "abab", "abba", 0)
	requirePatternCount(t, "banana", "banana", 1)
	requirePatternCount(t, "banana", "anaban", 1)
	requirePatternCount(t, "banana", "abanan", 1)
	requirePatternCount(t, "banana", "bananb", 0)
	requirePatternCount(t, "aba", "aa", 1)
	for length := 1; length <= impl.MaxTurn; length++ {
		for _, b := range []string{"\x00", "a", "\xff"} {
			for _, size := range []int{1, 2, length / 2, length - 1, length} {
				if size >= 1 && size <= length {
					requirePatternCount(t, strings.Repeat(b, length), strings.Repeat(b, size), length)
					requirePatternCount(t, strings.Repeat(b, length), strings.Repeat(b, size-1)+"b", 0)
				}
			}
		}
	}
}

// A text of one period occurs as often as it has periods, and so do its rotations.
func TestPatternsAsLongAsTheText(t *testing.T) {
	for _, text := range longTexts() {
		if text == "" {
			continue
		}
		for by := 0; by < len(text); by += max(1, len(text)/4) {
			rotation := longRotations(text)[by]
			requirePatternCount(t, text, rotation, longPatternCount(text, text))
		}
	}
	requirePatternCount(t, strings.Repeat("abc", 40), strings.Repeat("abc", 40), 40)
	requirePatternCount(t, strings.Repeat("abc", 40), strings.Repeat("cab", 40), 40)
	requirePatternCount(t, strings.Repeat("abc", 40), strings.Repeat("acb", 40), 0)
}
