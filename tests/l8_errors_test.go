package tests

import (
	"bytes"
	"slices"
	"testing"

	"loop.example/g00294/impl"
)

// wordShape is the number of wrong bytes that a word allows and the number of its bytes of data.
type wordShape struct{ wrong, count int }

func (s wordShape) size() int { return 2*s.wrong + s.count }

func allWordShapes() []wordShape {
	var shapes []wordShape
	for wrong := 1; wrong <= impl.MaxWrong; wrong++ {
		for count := 1; 2*wrong+count <= impl.MaxWord; count++ {
			shapes = append(shapes, wordShape{wrong, count})
		}
	}
	return shapes
}

// edgeWordShapes have one byte of data, two or as many as a word holds.
func edgeWordShapes() []wordShape {
	return slices.DeleteFunc(allWordShapes(), func(s wordShape) bool { return s.count > 2 && s.size() < impl.MaxWord })
}

// dataOfWord returns several data of one length: mixed bytes, bytes that are all 0 or 255 or
// increasing, and a single byte other than 0 at either end.
func dataOfWord(count int) [][]byte {
	first, last := make([]byte, count), make([]byte, count)
	first[0], last[count-1] = 1, 0x80
	return [][]byte{
		mixedBytes(count, count), mixedBytes(count, 50+count), make([]byte, count), bytes.Repeat([]byte{0xFF}, count),
		steppedBytes(count, 1, 1), first, last,
	}
}

// longRoots are the places at which code words vanish.
func longRoots(wrong int) []byte {
	roots := make([]byte, 2*wrong)
	for i := range roots {
		roots[i] = longPower(3, i+1)
	}
	return roots
}

func longPolyProduct(a, b []byte) []byte {
	product := make([]byte, len(a)+len(b)-1)
	for i := range a {
		for j := range b {
			product[i+j] ^= longProduct(a[i], b[j])
		}
	}
	return product
}

func longGenerator(wrong int) []byte {
	product := []byte{1}
	for _, root := range longRoots(wrong) {
		product = longPolyProduct(product, []byte{root, 1})
	}
	return product
}

// longThrough is the polynomial with these values at these places, as a sum over the places (Lagrange).
func longThrough(places, values []byte) []byte {
	sum := make([]byte, len(places))
	for i, place := range places {
		part, bottom := []byte{values[i]}, byte(1)
		for j, other := range places {
			if i != j {
				part = longPolyProduct(part, []byte{other, 1})
				bottom = longProduct(bottom, place^other)
			}
		}
		for k, coefficient := range part {
			sum[k] ^= longProduct(coefficient, longInverse(bottom))
		}
	}
	return sum
}

func longSyndromes(w []byte, wrong int) []byte {
	syndromes := longRoots(wrong)
	for i, root := range syndromes {
		syndromes[i] = longPoly(w, root)
	}
	return syndromes
}

// longWord needs no division: its first bytes make it vanish at all roots.
func longWord(data []byte, wrong int) []byte {
	shifted := append(make([]byte, 2*wrong), data...)
	return append(longThrough(longRoots(wrong), longSyndromes(shifted, wrong)), data...)
}

// bytesWith are so many bytes with these syndromes.
func bytesWith(syndromes []byte, size int) []byte {
	front := longThrough(longRoots(len(syndromes)/2), syndromes)
	return append(front, make([]byte, size-len(front))...)
}

// longLocator vanishes at the inverse of 3 to each position.
func longLocator(positions []int) []byte {
	product := []byte{1}
	for _, position := range positions {
		product = longPolyProduct(product, []byte{1, longPower(3, position)})
	}
	return product
}

// changedAt changes a byte at each of the positions; no change is 0.
func changedAt(w []byte, positions []int, seed int) []byte {
	changed := slices.Clone(w)
	for i, position := range positions {
		changed[position] ^= byte(1 + int(mixedByte(seed, i, position))%255)
	}
	return changed
}

// upTo returns all increasing lists of at most size indexes below n.
func upTo(n, size int) [][]int {
	var lists [][]int
	for count := range size + 1 {
		lists = append(lists, choices(n, count)...)
	}
	return lists
}

func isZero(l []byte) bool { return len(bytes.Trim(l, "\x00")) == 0 }

func coded(t *testing.T, data []byte, wrong int) []byte {
	t.Helper()
	word, ok := impl.EncodeWord(data, wrong)
	if !ok || len(word) != 2*wrong+len(data) {
		t.Fatalf("EncodeWord of %v with %d: %v, %v", data, wrong, word, ok)
	}
	return word
}

func requireSyndromes(t *testing.T, w []byte, wrong int, want []byte) {
	t.Helper()
	if got, ok := impl.SyndromesOf(w, wrong); !ok || !slices.Equal(got, want) {
		t.Fatalf("SyndromesOf %v with %d: %v, %v, want %v", w, wrong, got, ok, want)
	}
}

func requireIsWord(t *testing.T, w []byte, wrong int, want bool) {
	t.Helper()
	if got, ok := impl.IsWord(w, wrong); !ok || got != want {
		t.Fatalf("IsWord of %v with %d: %v, %v, want %v", w, wrong, got, ok, want)
	}
}

func requireDistance(t *testing.T, a, b []byte, want int) {
	t.Helper()
	if got, ok := impl.DistanceOf(a, b); !ok || got != want {
		t.Fatalf("DistanceOf %v and %v: %d, %v, want %d", a, b, got, ok, want)
	}
}

func requireLocator(t *testing.T, s, want []byte) {
	t.Helper()
	if got, ok := impl.LocatorOf(s); !ok || !slices.Equal(got, want) {
		t.Fatalf("LocatorOf %v: %v, %v, want %v", s, got, ok, want)
	}
}

func requireCorrected(t *testing.T, w []byte, wrong int, want []byte, number int) {
	t.Helper()
	if got, n, ok := impl.CorrectWord(w, wrong); !ok || n != number || !slices.Equal(got, want) {
		t.Fatalf("CorrectWord of %v with %d: %v, %d, %v, want %v, %d", w, wrong, got, n, ok, want, number)
	}
}

func requireWordData(t *testing.T, w []byte, wrong int, want []byte) {
	t.Helper()
	if got, ok := impl.DataOf(w, wrong); !ok || !slices.Equal(got, want) {
		t.Fatalf("DataOf %v with %d: %v, %v, want %v", w, wrong, got, ok, want)
	}
}

// requireFailsOrCodeWord checks what may be said of bytes with any number of wrong ones, and reports
// whether they were corrected.
func requireFailsOrCodeWord(t *testing.T, w []byte, wrong int) bool {
	t.Helper()
	got, n, ok := impl.CorrectWord(w, wrong)
	if !ok {
		requireNotCorrected(t, w, wrong)
		return false
	}
	if n > wrong || len(got) != len(w) || !isZero(longSyndromes(got, wrong)) {
		t.Fatalf("CorrectWord of %v with %d: %v, %d", w, wrong, got, n)
	}
	requireIsWord(t, got, wrong, true)
	requireDistance(t, w, got, n)
	return true
}

func TestWordExamples(t *testing.T) {
	if g, ok := impl.GeneratorOf(1); !ok || !slices.Equal(g, []byte{15, 3 ^ 5, 1}) {
		t.Errorf("GeneratorOf 1: %v, %v", g, ok)
	}
	word := coded(t, []byte("hello"), 2)
	if want := []byte{115, 159, 157, 194, 'h', 'e', 'l', 'l', 'o'}; !slices.Equal(word, want) {
		t.Errorf("EncodeWord of hello: %v, want %v", word, want)
	}
	requireIsWord(t, word, 2, true)
	requireSyndromes(t, word, 2, make([]byte, 4))
	requireWordData(t, word, 2, []byte("hello"))
	requireCorrected(t, word, 2, word, 0)
	for _, positions := range choices(9, 2) {
		for seed := range 20 {
			wrong := changedAt(word, positions, seed)
			requireIsWord(t, wrong, 2, false)
			requireDistance(t, word, wrong, 2)
			requireCorrected(t, wrong, 2, word, 2)
		}
	}
}

func TestWordsByHand(t *testing.T) {
	for _, c := range []struct {
		data  []byte
		wrong int
		front []byte
	}{
		{[]byte("hello"), 1, []byte{163, 195}},
		{[]byte("hello"), 3, []byte{102, 206, 131, 125, 132, 146}},
		{[]byte("hello"), 4, []byte{217, 103, 51, 149, 143, 43, 85, 26}},
		{[]byte{1}, 1, []byte{15, 6}},
		{[]byte{0, 1}, 1, []byte{34, 27}},
		{[]byte{0, 1}, 2, []byte{220, 205, 252, 239}},
		{[]byte{0, 1}, 3, []byte{200, 168, 184, 219, 122, 141}},
		{[]byte{0, 1}, 4, []byte{121, 222, 193, 26, 79, 128, 100, 253}},
		{steppedBytes(22, 1, 1), 1, []byte{234, 74}},
		{steppedBytes(20, 1, 1), 2, []byte{27, 35, 126, 118}},
		{steppedBytes(18, 1, 1), 3, []byte{51, 155, 117, 177, 237, 63}},
		{steppedBytes(16, 1, 1), 4, []byte{234, 183, 129, 13, 130, 114, 114, 203}},
	} {
		if got := coded(t, c.data, c.wrong); !slices.Equal(got, slices.Concat(c.front, c.data)) {
			t.Errorf("EncodeWord of %v with %d: %v, want %v before the data", c.data, c.wrong, got, c.front)
		}
	}
}

func TestGenerators(t *testing.T) {
	for i, want := range [][]byte{
		{15, 6, 1}, {114, 158, 180, 24, 1}, {115, 35, 46, 231, 5, 126, 1}, {55, 153, 15, 198, 82, 222, 57, 155, 1},
	} {
		wrong := i + 1
		got, ok := impl.GeneratorOf(wrong)
		if !ok || !slices.Equal(got, want) || !slices.Equal(got, longGenerator(wrong)) {
			t.Fatalf("GeneratorOf %d: %v, %v, want %v", wrong, got, ok, want)
		}
		roots := longRoots(wrong)
		for x := range 256 {
			if vanishes := longPoly(got, byte(x)) == 0; vanishes != slices.Contains(roots, byte(x)) {
				t.Errorf("GeneratorOf %d at %d vanishes: %v", wrong, x, vanishes)
			}
		}
	}
}

func TestEncodedWords(t *testing.T) {
	for _, s := range allWordShapes() {
		for _, data := range dataOfWord(s.count) {
			word := coded(t, data, s.wrong)
			if want := longWord(data, s.wrong); !slices.Equal(word, want) {
				t.Fatalf("EncodeWord of %v with %d: %v, want %v", data, s.wrong, word, want)
			}
			requireIsWord(t, word, s.wrong, true)
			requireSyndromes(t, word, s.wrong, make([]byte, 2*s.wrong))
			requireCorrected(t, word, s.wrong, word, 0)
			requireWordData(t, word, s.wrong, data)
		}
	}
}

// The data of one byte is a multiple of the generator itself.
func TestWordsOfOneByte(t *testing.T) {
	for wrong := 1; wrong <= impl.MaxWrong; wrong++ {
		for b := range 256 {
			want := longPolyProduct(longGenerator(wrong), []byte{byte(b)})
			if got := coded(t, []byte{byte(b)}, wrong); !slices.Equal(got, want) {
				t.Errorf("EncodeWord of %d with %d: %v, want %v", b, wrong, got, want)
			}
		}
	}
}

func TestMultiplesOfTheGeneratorAreWords(t *testing.T) {
	for _, s := range allWordShapes() {
		for _, factor := range dataOfWord(s.count) {
			word := longPolyProduct(longGenerator(s.wrong), factor)
			requireIsWord(t, word, s.wrong, true)
			requireCorrected(t, word, s.wrong, word, 0)
			data := word[2*s.wrong:]
			requireWordData(t, word, s.wrong, data)
			if got := coded(t, data, s.wrong); !slices.Equal(got, word) {
				t.Fatalf("EncodeWord of %v with %d: %v, want %v", data, s.wrong, got, word)
			}
		}
	}
}

// For each data there is only one code word.
func TestNoOtherFirstBytesMakeAWord(t *testing.T) {
	for _, data := range [][]byte{{0}, {7}, []byte("hello"), mixedBytes(22, 1)} {
		want := coded(t, data, 1)
		w := slices.Clone(want)
		for first := range 256 {
			for second := range 256 {
				w[0], w[1] = byte(first), byte(second)
				requireIsWord(t, w, 1, slices.Equal(w, want))
			}
		}
	}
}

func TestSyndromesAreValues(t *testing.T) {
	for _, s := range allWordShapes() {
		for _, w := range dataOfWord(s.size()) {
			want := longSyndromes(w, s.wrong)
			requireSyndromes(t, w, s.wrong, want)
			requireIsWord(t, w, s.wrong, isZero(want))
		}
	}
	requireSyndromes(t, []byte{1, 0, 0}, 1, []byte{1, 1})
	requireSyndromes(t, []byte{0, 1, 0}, 1, []byte{3, 5})
	requireSyndromes(t, []byte{0, 0, 7}, 1, []byte{longProduct(7, 5), longProduct(7, 17)})
}

// A single wrong byte gives syndromes of which none is 0.
func TestSyndromesOfSingleBytes(t *testing.T) {
	for _, s := range allWordShapes() {
		for position := range s.size() {
			for _, b := range []byte{1, 2, 0x53, 255} {
				w := make([]byte, s.size())
				w[position] = b
				want := make([]byte, 2*s.wrong)
				for i := range want {
					want[i] = longProduct(b, longPower(3, (i+1)*position))
				}
				requireSyndromes(t, w, s.wrong, want)
			}
		}
	}
}

// Some syndromes may be 0 although the bytes are no code word; each of them counts.
func TestOneSyndromeIsNotZero(t *testing.T) {
	for _, s := range allWordShapes() {
		for place := range 2 * s.wrong {
			syndromes := make([]byte, 2*s.wrong)
			syndromes[place] = 9
			w := bytesWith(syndromes, s.size())
			requireSyndromes(t, w, s.wrong, syndromes)
			requireIsWord(t, w, s.wrong, false)
			requireNoWordData(t, w, s.wrong)
			if s.wrong <= 2 || s.count <= 3 {
				requireNearest(t, w, s.wrong)
			} else {
				requireFailsOrCodeWord(t, w, s.wrong)
			}
		}
	}
}

func TestDistances(t *testing.T) {
	for n := range impl.MaxWord + 1 {
		for _, a := range append(dataOfWord(n + 1)[:2], make([]byte, n+1)) {
			a = a[:n]
			requireDistance(t, a, slices.Clone(a), 0)
			for position := range n {
				for change := 1; change < 256; change++ {
					b := slices.Clone(a)
					b[position] ^= byte(change)
					requireDistance(t, a, b, 1)
					requireDistance(t, b, a, 1)
				}
			}
			for count := range n + 1 {
				positions := make([]int, count)
				for i := range positions {
					positions[i] = n - 1 - i
				}
				requireDistance(t, a, changedAt(a, positions, 1), count)
				requireDistance(t, changedAt(a, positions, 2), a, count)
			}
		}
	}
	requireDistance(t, []byte("karolin"), []byte("kathrin"), 3)
	requireDistance(t, nil, []byte{}, 0)
}

func TestLocatorsByHand(t *testing.T) {
	for _, c := range []struct{ s, want []byte }{
		{nil, []byte{1}},
		{[]byte{0, 0}, []byte{1}},
		{[]byte{0, 7}, []byte{1}},
		{[]byte{1, 0}, []byte{1, 0}},
		{[]byte{1, 7}, []byte{1, 7}},
		{[]byte{2, 6}, []byte{1, 3}},
		{[]byte{0, 0, 0, 0}, []byte{1}},
		{[]byte{0, 0, 0, 5}, []byte{1}},
		// The matrix of one row is not invertible, that of two rows is.
		{[]byte{0, 1, 0, 0}, []byte{1, 0, 0}},
		{[]byte{0, 1, 0, 4}, []byte{1, 0, 4}},
		{[]byte{0, 1, 5, 0}, []byte{1, 5, 17}},
		// The matrix of two rows is not invertible, that of one row is.
		{[]byte{1, 1, 1, 1}, []byte{1, 1}},
		{[]byte{1, 1, 1, 9}, []byte{1, 1}},
		{[]byte{1, 3, 5, 15}, []byte{1, 3}},
		{[]byte{7, 0, 0, 1}, []byte{1, 0}},
		// The right-hand sides are 1 and 0.
		{[]byte{1, 0, 1, 0}, []byte{1, 0, 1}},
		// Of one, two and three rows only the last matrix is invertible.
		{[]byte{0, 0, 1, 0, 0, 0}, []byte{1, 0, 0, 0}},
		{[]byte{0, 0, 1, 6, 0, 0}, []byte{1, 6, 20, longProduct(6, 20)}},
		{make([]byte, 8), []byte{1}},
		{[]byte{9, 9, 9, 9, 9, 9, 9, 9}, []byte{1, 1}},
		{[]byte{1, 0, 0, 0, 0, 0, 0, 0}, []byte{1, 0}},
		{[]byte{0, 0, 0, 1, 0, 0, 0, 0}, []byte{1, 0, 0, 0, 0}},
		{[]byte{0, 0, 0, 0, 1, 2, 3, 4}, []byte{1}},
	} {
		requireLocator(t, c.s, c.want)
	}
}

// longDegree is the greatest number of rows whose matrix has a determinant other than 0.
func longDegree(s []byte) int {
	for n := len(s) / 2; n > 0; n-- {
		if determinant(matrixWith(n, n, func(i, j int) byte { return s[i+j] })) != 0 {
			return n
		}
	}
	return 0
}

// requireLocatorOf checks the locator by its equations, which have no other solution.
func requireLocatorOf(t *testing.T, s []byte) {
	t.Helper()
	locator, ok := impl.LocatorOf(s)
	n := longDegree(s)
	if !ok || len(locator) != n+1 || locator[0] != 1 {
		t.Fatalf("LocatorOf %v: %v, %v, want the degree %d", s, locator, ok, n)
	}
	for i := range n {
		sum := byte(0)
		for j := range n {
			sum ^= longProduct(s[i+j], locator[n-j])
		}
		if sum != s[n+i] {
			t.Fatalf("LocatorOf %v: %v, equation %d gives %d", s, locator, i, sum)
		}
	}
}

func TestLocatorsSolveTheirEquations(t *testing.T) {
	for first := range 256 {
		for second := range 256 {
			requireLocatorOf(t, []byte{byte(first), byte(second)})
		}
	}
	for _, c := range []struct {
		count  int
		values []byte
	}{
		{4, []byte{0, 1, 2, 3, 4, 5, 15, 255}}, {6, []byte{0, 1, 3, 5}}, {8, []byte{0, 1, 3}},
	} {
		digits := make([]int, c.count)
		for more := true; more; more = nextDigits(digits, len(c.values)) {
			s := make([]byte, c.count)
			for i, digit := range digits {
				s[i] = c.values[digit]
			}
			requireLocatorOf(t, s)
		}
	}
	for seed := range 500 {
		for count := 0; count <= 2*impl.MaxWrong; count += 2 {
			requireLocatorOf(t, mixedBytes(count, seed))
		}
	}
}

// Syndromes of few wrong bytes have a locator of a low degree: its greater matrices are not invertible.
func TestLocatorsOfWrongBytes(t *testing.T) {
	for _, s := range edgeWordShapes() {
		for seed, positions := range upTo(s.size(), s.wrong) {
			if seed > 3000 && seed%7 != 0 {
				continue
			}
			syndromes := longSyndromes(changedAt(make([]byte, s.size()), positions, seed), s.wrong)
			requireLocator(t, syndromes, longLocator(positions))
		}
	}
}

func TestAnyWrongBytesAreCorrected(t *testing.T) {
	for _, s := range edgeWordShapes() {
		data := mixedBytes(s.count, 3)
		word := coded(t, data, s.wrong)
		for seed, positions := range upTo(s.size(), s.wrong) {
			requireCorrected(t, changedAt(word, positions, seed), s.wrong, word, len(positions))
		}
		requireWordData(t, word, s.wrong, data)
	}
}

// positionLists are so many positions at the beginning, at the end, at both and in between.
func positionLists(size, count int) [][]int {
	start := make([]int, count)
	end := make([]int, count)
	both := make([]int, count)
	spread := make([]int, count)
	for i := range count {
		start[i] = i
		end[i] = size - count + i
		both[i] = i
		if i >= (count+1)/2 {
			both[i] = end[i]
		}
		spread[i] = i * size / max(count, 1)
	}
	return [][]int{start, end, both, spread}
}

func TestWrongBytesOfEverySizeAreCorrected(t *testing.T) {
	for _, s := range allWordShapes() {
		for seed, data := range dataOfWord(s.count) {
			word := coded(t, data, s.wrong)
			requireIsWord(t, word, s.wrong, true)
			for count := range s.wrong + 1 {
				for _, positions := range positionLists(s.size(), count) {
					got, n, ok := impl.CorrectWord(changedAt(word, positions, seed), s.wrong)
					if !ok || n != count || !slices.Equal(got, word) {
						t.Fatalf("CorrectWord of %v with %v wrong: %v, %d, %v", word, positions, got, n, ok)
					}
					requireWordData(t, got, s.wrong, data)
				}
			}
		}
	}
}

func TestEveryWrongByteIsCorrected(t *testing.T) {
	for _, s := range edgeWordShapes() {
		word := coded(t, steppedBytes(s.count, 200, 7), s.wrong)
		for position := range word {
			for change := 1; change < 256; change++ {
				w := slices.Clone(word)
				w[position] ^= byte(change)
				requireIsWord(t, w, s.wrong, false)
				requireCorrected(t, w, s.wrong, word, 1)
			}
		}
	}
}

func TestEveryTwoWrongBytesAreCorrected(t *testing.T) {
	word := coded(t, []byte("hello"), 2)
	for _, positions := range [][]int{{0, 8}, {3, 4}} {
		for first := 1; first < 256; first++ {
			for second := 1; second < 256; second += 3 {
				w := slices.Clone(word)
				w[positions[0]] ^= byte(first)
				w[positions[1]] ^= byte(second)
				requireCorrected(t, w, 2, word, 2)
			}
		}
	}
}

// A word that allows more wrong bytes allows fewer as well.
func TestWordsOfGreaterWrong(t *testing.T) {
	word := coded(t, mixedBytes(5, 1), 4)
	for wrong := 1; wrong <= impl.MaxWrong; wrong++ {
		requireIsWord(t, word, wrong, true)
		for _, positions := range positionLists(len(word), wrong) {
			requireCorrected(t, changedAt(word, positions, 1), wrong, word, wrong)
		}
		requireWordData(t, word, wrong, word[2*wrong:])
	}
}

// longNearest tries all positions: which wrong bytes are there, if any, that explain the syndromes?
func longNearest(w []byte, wrong int) (word []byte, number int, found bool) {
	syndromes := longSyndromes(w, wrong)
	if isZero(syndromes) {
		return w, 0, true
	}
	columns := make([][]byte, len(w))
	for position := range columns {
		columns[position] = longColumn(position, wrong)
	}
	for _, positions := range upTo(len(w), wrong)[1:] {
		var s span
		for _, position := range positions {
			s.add(columns[position])
		}
		if !s.add(syndromes) {
			return withoutSyndromes(w, positions, wrong), len(positions), true
		}
	}
	return nil, 0, false
}

// longColumn are the syndromes of a 1 at a position.
func longColumn(position, wrong int) []byte {
	column := make([]byte, 2*wrong)
	for i := range column {
		column[i] = longPower(3, (i+1)*position)
	}
	return column
}

// withoutSyndromes changes the bytes at some positions so that no syndrome is left (Cramer).
func withoutSyndromes(w []byte, positions []int, wrong int) []byte {
	n := len(positions)
	rows := matrixWith(n, n, func(i, j int) byte { return longColumn(positions[j], wrong)[i] })
	right := longSyndromes(w, wrong)[:n]
	whole := longInverse(determinant(rows))
	word := slices.Clone(w)
	for j, position := range positions {
		replaced := matrixWith(n, n, func(i, k int) byte {
			if k == j {
				return right[i]
			}
			return rows.Rows[i][k]
		})
		word[position] ^= longProduct(determinant(replaced), whole)
	}
	return word
}

// requireNearest checks that a code word is answered exactly if there is one near enough.
func requireNearest(t *testing.T, w []byte, wrong int) bool {
	t.Helper()
	want, number, found := longNearest(w, wrong)
	if found {
		requireCorrected(t, w, wrong, want, number)
	} else {
		requireNotCorrected(t, w, wrong)
	}
	return found
}

// All syndromes there are: wrong bytes that are not near a code word are never corrected.
func TestAllWordsThatAllowOneWrongByte(t *testing.T) {
	for _, size := range []int{3, 5, 24} {
		type cause struct {
			position int
			change   byte
		}
		causes := map[[2]byte]cause{}
		for position := range size {
			for change := 1; change < 256; change++ {
				s := longColumn(position, 1)
				causes[[2]byte{longProduct(s[0], byte(change)), longProduct(s[1], byte(change))}] = cause{position, byte(change)}
			}
		}
		// Syndromes are linear, so that the bytes with all of them are sums.
		one, two := bytesWith([]byte{1, 0}, size), bytesWith([]byte{0, 1}, size)
		word := longWord(mixedBytes(size-2, 1), 1)
		for first := range 256 {
			for second := range 256 {
				w := slices.Clone(word)
				for i := range 2 {
					w[i] ^= longProduct(one[i], byte(first)) ^ longProduct(two[i], byte(second))
				}
				c, found := causes[[2]byte{byte(first), byte(second)}]
				if first == 0 && second == 0 {
					requireCorrected(t, w, 1, word, 0)
				} else if found {
					want := slices.Clone(w)
					want[c.position] ^= c.change
					requireCorrected(t, w, 1, want, 1)
				} else {
					requireNotCorrected(t, w, 1)
				}
			}
		}
	}
}

func TestSyndromesOfFewValues(t *testing.T) {
	for _, c := range []struct {
		wrong  int
		sizes  []int
		values []byte
	}{
		{2, []int{5, 9, 24}, []byte{0, 1, 3, 5, 15}}, {3, []int{7, 12}, []byte{0, 1, 3}}, {4, []int{9}, []byte{0, 1}},
	} {
		digits := make([]int, 2*c.wrong)
		for more := true; more; more = nextDigits(digits, len(c.values)) {
			s := make([]byte, len(digits))
			for i, digit := range digits {
				s[i] = c.values[digit]
			}
			for _, size := range c.sizes {
				requireNearest(t, bytesWith(s, size), c.wrong)
			}
		}
	}
}

func TestManyWrongBytes(t *testing.T) {
	corrected, failed := 0, 0
	for _, s := range edgeWordShapes() {
		word := coded(t, mixedBytes(s.count, 8), s.wrong)
		for count := s.wrong + 1; count <= s.size(); count++ {
			for seed := range 12 {
				for _, positions := range positionLists(s.size(), count) {
					if requireFailsOrCodeWord(t, changedAt(word, positions, seed), s.wrong) {
						corrected++
					} else {
						failed++
					}
				}
			}
		}
	}
	if corrected < 100 || failed < 1000 {
		t.Errorf("%d were corrected, %d failed", corrected, failed)
	}
}

func TestManyWrongBytesByAllPositions(t *testing.T) {
	for _, s := range []wordShape{{1, 1}, {1, 4}, {1, 22}, {2, 1}, {2, 5}, {2, 20}, {3, 1}, {3, 3}, {4, 1}} {
		word := coded(t, mixedBytes(s.count, 8), s.wrong)
		for count := s.wrong + 1; count <= s.size(); count++ {
			for seed := range 3 {
				for _, positions := range positionLists(s.size(), count) {
					requireNearest(t, changedAt(word, positions, seed), s.wrong)
				}
			}
		}
	}
}

// With more than half of the least distance wrong, another code word may be nearer: it is answered.
func TestTheNearerWordIsAnswered(t *testing.T) {
	for _, s := range allWordShapes() {
		for _, data := range dataOfWord(s.count)[:2] {
			word := coded(t, data, s.wrong)
			for shift := range s.count {
				other := slices.Clone(word)
				for i, coefficient := range longGenerator(s.wrong) {
					other[shift+i] ^= coefficient
				}
				requireDistance(t, word, other, 2*s.wrong+1)
				w := slices.Clone(other)
				copy(w[shift:shift+s.wrong], word[shift:shift+s.wrong])
				requireDistance(t, w, word, s.wrong+1)
				requireCorrected(t, w, s.wrong, other, s.wrong)
				w[shift+s.wrong] = word[shift+s.wrong]
				requireCorrected(t, w, s.wrong, word, s.wrong)
			}
		}
	}
}

// A position behind the end of the word is none, although the locator vanishes there.
func TestWrongBytesBehindTheEnd(t *testing.T) {
	for _, s := range edgeWordShapes() {
		for behind := s.size(); behind < 255; behind++ {
			for count := 1; count <= s.wrong; count++ {
				syndromes := longColumn(behind, s.wrong)
				for position := range count - 1 {
					for i, b := range longColumn(position, s.wrong) {
						syndromes[i] ^= b
					}
				}
				locator, ok := impl.LocatorOf(syndromes)
				if !ok || len(locator) != count+1 {
					t.Fatalf("LocatorOf %v: %v, %v", syndromes, locator, ok)
				}
				requireNotCorrected(t, bytesWith(syndromes, s.size()), s.wrong)
			}
		}
	}
}

func TestLocatorsWithTooFewPositions(t *testing.T) {
	for _, c := range []struct {
		syndromes, locator []byte
	}{
		// The last coefficient is 0, so that the locator vanishes at fewer places than it has coefficients behind the first.
		{[]byte{1, 0}, []byte{1, 0}},
		{[]byte{7, 0, 0, 1}, []byte{1, 0}},
		{[]byte{0, 1, 3, 5}, []byte{1, 3, 0}},
		{[]byte{2, 1, 1, 1}, []byte{1, 1, 0}},
		{[]byte{0, 0, 1, 0, 0, 0}, []byte{1, 0, 0, 0}},
		// It vanishes at 1 twice.
		{[]byte{0, 1, 0, 1}, []byte{1, 0, 1}},
		// It is 1, although there are wrong bytes.
		{[]byte{0, 7}, []byte{1}},
		{[]byte{0, 0, 0, 7}, []byte{1}},
		{[]byte{0, 0, 0, 0, 0, 0, 0, 7}, []byte{1}},
	} {
		requireLocator(t, c.syndromes, c.locator)
		wrong := len(c.syndromes) / 2
		for size := 2*wrong + 1; size <= impl.MaxWord; size++ {
			requireNotCorrected(t, bytesWith(c.syndromes, size), wrong)
		}
	}
}

// The locator has all its positions, but the syndromes behind its equations belong to no byte there.
func TestPositionsWithoutACodeWord(t *testing.T) {
	for _, s := range allWordShapes() {
		for count := 1; count < s.wrong; count++ {
			positions := positionLists(s.size(), count)[3]
			right := longSyndromes(changedAt(make([]byte, s.size()), positions, 3), s.wrong)
			for place := 2 * count; place < 2*s.wrong; place++ {
				syndromes := slices.Clone(right)
				syndromes[place] ^= 0x21
				found := longDegree(syndromes) == count
				if place == 2*s.wrong-1 && !found {
					t.Errorf("the locator of %v has not the degree %d", syndromes, count)
				}
				if found {
					requireLocator(t, syndromes, longLocator(positions))
					requireNotCorrected(t, bytesWith(syndromes, s.size()), s.wrong)
				}
			}
		}
	}
	requireNotCorrected(t, bytesWith([]byte{1, 1, 1, 9}, 9), 2)
	requireCorrected(t, bytesWith([]byte{1, 1, 1, 1}, 9), 2, make([]byte, 9), 1)
}

func TestDifferentWordsOfOneByteDiffer(t *testing.T) {
	for wrong := 1; wrong <= impl.MaxWrong; wrong++ {
		var words [][]byte
		for b := range 256 {
			words = append(words, coded(t, []byte{byte(b)}, wrong))
		}
		for i, a := range words {
			for _, b := range words[:i] {
				requireDistance(t, a, b, 2*wrong+1)
			}
		}
	}
}

func TestDifferentWordsOfTwoBytesDiffer(t *testing.T) {
	for wrong := 1; wrong <= impl.MaxWrong; wrong++ {
		some := [][]byte{coded(t, []byte{0, 0}, wrong), coded(t, []byte{0x53, 0xCA}, wrong), coded(t, []byte{255, 1}, wrong)}
		for first := range 256 {
			for second := range 256 {
				word := coded(t, []byte{byte(first), byte(second)}, wrong)
				for _, other := range some {
					requireFarApart(t, word, other, wrong)
				}
			}
		}
	}
}

func requireFarApart(t *testing.T, a, b []byte, wrong int) {
	t.Helper()
	distance, ok := impl.DistanceOf(a, b)
	if !ok || distance <= 2*wrong && !slices.Equal(a, b) {
		t.Fatalf("DistanceOf %v and %v with %d: %d, %v", a, b, wrong, distance, ok)
	}
}

func TestDifferentWordsDiffer(t *testing.T) {
	for _, s := range allWordShapes() {
		for seed, data := range dataOfWord(s.count) {
			word := coded(t, data, s.wrong)
			for count := 1; count <= s.count; count++ {
				for _, positions := range positionLists(s.count, count) {
					other := coded(t, changedAt(data, positions, seed), s.wrong)
					requireFarApart(t, word, other, s.wrong)
					requireFarApart(t, other, word, s.wrong)
				}
			}
			for _, otherData := range dataOfWord(s.count) {
				requireFarApart(t, word, coded(t, otherData, s.wrong), s.wrong)
			}
		}
	}
}

// No sum of at most 2t columns is 0 unless all factors are, so that no two code words are nearer.
func TestColumnsOfWordsAreIndependent(t *testing.T) {
	for _, s := range []wordShape{{1, 22}, {2, 20}, {3, 4}, {4, 3}} {
		columns := make([][]byte, s.size())
		for position := range columns {
			w := make([]byte, s.size())
			w[position] = 1
			column, ok := impl.SyndromesOf(w, s.wrong)
			if !ok {
				t.Fatalf("SyndromesOf %v fails", w)
			}
			columns[position] = column
		}
		for _, positions := range choices(s.size(), 2*s.wrong) {
			var chosen span
			for _, position := range positions {
				if !chosen.add(columns[position]) {
					t.Fatalf("the columns %v depend on each other", positions)
				}
			}
		}
	}
}
