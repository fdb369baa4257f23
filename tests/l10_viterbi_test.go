package tests

import (
	"math/bits"
	"slices"
	"strings"
	"testing"

	"loop.example/g00294/impl"
)

// bitTextOf writes a number in this many bits, the most significant one first.
func bitTextOf(number uint64, length int) string {
	text := make([]byte, length)
	for i := range text {
		text[i] = '0' + byte(number>>(length-1-i)&1)
	}
	return string(text)
}

func numberOfBits(text string) uint64 {
	number := uint64(0)
	for i := range len(text) {
		number = 2*number + uint64(text[i]-'0')
	}
	return number
}

// allBits returns the bit strings of a length in lexicographic order.
func allBits(length int) []string {
	texts := make([]string, 1<<length)
	for number := range texts {
		texts[number] = bitTextOf(uint64(number), length)
	}
	return texts
}

func mixedBits(length, seed int) string {
	text := make([]byte, length)
	for i := range text {
		text[i] = '0' + mixedByte(seed, i, 7)&1
	}
	return string(text)
}

// someBits returns bit strings of a length that are regular, nearly so, or mixed.
func someBits(length int) []string {
	var texts []string
	for _, pattern := range []string{"0", "1", "01", "10", "110", "0010", "11100"} {
		texts = append(texts, strings.Repeat(pattern, length)[:length])
	}
	for place := 0; place < length; place += max(1, length/4) {
		texts = append(texts, longFlip(strings.Repeat("0", length), []int{place}))
	}
	for seed := range 8 {
		texts = append(texts, mixedBits(length, seed))
	}
	return texts
}

func longFlip(text string, places []int) string {
	flipped := []byte(text)
	for _, place := range places {
		flipped[place] = "10"[text[place]-'0']
	}
	return string(flipped)
}

// longOutputs adds bits as numbers: each output bit says whether a sum is odd.
func longOutputs(before, last, bit byte) string {
	sums := []byte{bit + last + before, bit + before, bit + last}
	for i, sum := range sums {
		sums[i] = '0' + sum%2
	}
	return string(sums)
}

func longEncoding(text string) string {
	padded := "00" + text + "00"
	var outputs string
	for i := 2; i < len(padded); i++ {
		outputs += longOutputs(padded[i-2]-'0', padded[i-1]-'0', padded[i]-'0')
	}
	return outputs
}

func longBitDistance(a, b string) int {
	distance := 0
	for i := range len(a) {
		distance += int((a[i] - b[i]) & 1)
	}
	return distance
}

// longState is the state after bits, of which there may be fewer than two.
func longState(text string) int {
	padded := "00" + text
	return 2*int(padded[len(padded)-1]-'0') + int(padded[len(padded)-2]-'0')
}

// encodingsOf returns the encodings of all bits of a length as numbers.
func encodingsOf(length int) []uint64 {
	encodings := make([]uint64, 1<<length)
	for number, text := range allBits(length) {
		encodings[number] = numberOfBits(longEncoding(text))
	}
	return encodings
}

// leastOf tries all bits of a length, in lexicographic order. It compares only the first outputs with
// the received ones if the last bits of the encodings are dropped.
func leastOf(encodings []uint64, received uint64, dropped int, allowed func(number int) bool) (number, cost int) {
	number, cost = -1, -1
	for candidate, encoding := range encodings {
		if !allowed(candidate) {
			continue
		}
		if c := bits.OnesCount64((encoding ^ received) >> dropped); cost < 0 || c < cost {
			number, cost = candidate, c
		}
	}
	return number, cost
}

func longDecoded(encodings []uint64, length int, received uint64) impl.Path {
	number, cost := leastOf(encodings, received, 0, func(int) bool { return true })
	return impl.Path{Bits: bitTextOf(uint64(number), length), Cost: cost}
}

func longPaths(encodings []uint64, length int, received uint64) []impl.Path {
	var paths []impl.Path
	for state := range 4 {
		number, cost := leastOf(encodings, received, 6, func(number int) bool {
			return longState(bitTextOf(uint64(number), length)) == state
		})
		path := impl.Path{Cost: cost}
		if number >= 0 {
			path.Bits = bitTextOf(uint64(number), length)
		}
		paths = append(paths, path)
	}
	return paths
}

// tooMuch is more than any cost.
const tooMuch = 1000

// backwards finds the best bits from the end of the received ones to their beginning. The costs at the
// end are those that are still to come in each state.
func backwards(received string, end [4]int) impl.Path {
	length := len(received) / 3
	costs := make([][4]int, length+1)
	costs[length] = end
	toCome := func(i, state int, bit byte) int {
		last, before := byte(state>>1), byte(state&1)
		return longBitDistance(longOutputs(before, last, bit), received[3*i:3*i+3]) + costs[i+1][2*int(bit)+int(last)]
	}
	for i := length - 1; i >= 0; i-- {
		for state := range 4 {
			costs[i][state] = min(toCome(i, state, 0), toCome(i, state, 1))
		}
	}
	path := impl.Path{Cost: costs[0][0]}
	for i := range length {
		state := longState(path.Bits)
		bit := byte('0')
		if toCome(i, state, 0) > toCome(i, state, 1) {
			bit = '1'
		}
		path.Bits += string(bit)
	}
	return path
}

func backwardsDecoded(received string) impl.Path {
	end := len(received) - 6
	var costs [4]int
	for state, last := range []string{"00", "10", "01", "11"} {
		zeros := longEncoding(last)
		costs[state] = longBitDistance(zeros[len(zeros)-6:], received[end:])
	}
	return backwards(received[:end], costs)
}

func backwardsPaths(received string) []impl.Path {
	var paths []impl.Path
	for state := range 4 {
		costs := [4]int{tooMuch, tooMuch, tooMuch, tooMuch}
		costs[state] = 0
		path := backwards(received[:len(received)-6], costs)
		if path.Cost >= tooMuch {
			path = impl.Path{Cost: -1}
		}
		paths = append(paths, path)
	}
	return paths
}

func requireEncodedBits(t *testing.T, text, want string) {
	t.Helper()
	if got, ok := impl.EncodeBits(text); got != want || !ok {
		t.Fatalf("EncodeBits of %q: %q, %v, want %q", text, got, ok, want)
	}
}

func requireOutputs(t *testing.T, state, bit int, outputs string, next int) {
	t.Helper()
	if got, reached, ok := impl.OutputsAt(state, bit); got != outputs || reached != next || !ok {
		t.Fatalf("OutputsAt %d with %d: %q, %d, %v, want %q, %d", state, bit, got, reached, ok, outputs, next)
	}
}

func requireBitDistance(t *testing.T, a, b string, want int) {
	t.Helper()
	if got, ok := impl.DistanceBits(a, b); got != want || !ok {
		t.Fatalf("DistanceBits of %q and %q: %d, %v, want %d", a, b, got, ok, want)
	}
}

func requireBitCost(t *testing.T, text, received string, want int) {
	t.Helper()
	if got, ok := impl.CostOf(text, received); got != want || !ok {
		t.Fatalf("CostOf %q and %q: %d, %v, want %d", text, received, got, ok, want)
	}
}

func requireDecodedBits(t *testing.T, received string, want impl.Path) {
	t.Helper()
	if got, ok := impl.DecodeBits(received); got != want || !ok {
		t.Fatalf("DecodeBits of %q: %+v, %v, want %+v", received, got, ok, want)
	}
}

func requirePaths(t *testing.T, received string, want []impl.Path) {
	t.Helper()
	if got, ok := impl.BestPaths(received); !slices.Equal(got, want) || !ok {
		t.Fatalf("BestPaths of %q: %+v, %v, want %+v", received, got, ok, want)
	}
}

func requireFlipped(t *testing.T, text string, places []int, want string) {
	t.Helper()
	if got, ok := impl.FlipBits(text, places); got != want || !ok {
		t.Fatalf("FlipBits of %q at %v: %q, %v, want %q", text, places, got, ok, want)
	}
}

// requireRecovered checks that inverted bits are found again, and that they are the cost.
func requireRecovered(t *testing.T, text string, places []int) {
	t.Helper()
	encoding, _ := impl.EncodeBits(text)
	received, ok := impl.FlipBits(encoding, places)
	if !ok {
		t.Fatalf("FlipBits of %q at %v fails", encoding, places)
	}
	requireDecodedBits(t, received, impl.Path{Bits: text, Cost: len(places)})
}

func TestExamplesOfBits(t *testing.T) {
	requireOutputs(t, 2, 1, "010", 3)
	requireEncodedBits(t, "1", "111101110")
	requireDecodedBits(t, "111101110", impl.Path{Bits: "1"})
}

func TestOutputsOfAllStates(t *testing.T) {
	requireOutputs(t, 0, 0, "000", 0)
	requireOutputs(t, 0, 1, "111", 2)
	requireOutputs(t, 1, 0, "110", 0)
	requireOutputs(t, 1, 1, "001", 2)
	requireOutputs(t, 2, 0, "101", 1)
	requireOutputs(t, 2, 1, "010", 3)
	requireOutputs(t, 3, 0, "011", 1)
	requireOutputs(t, 3, 1, "100", 3)
}

func TestShortEncodings(t *testing.T) {
	requireEncodedBits(t, "", "000000")
	requireEncodedBits(t, "0", "000000000")
	requireEncodedBits(t, "11", "111010011110")
	requireEncodedBits(t, "101", "111101001101110")
	for length := range 13 {
		for _, text := range allBits(length) {
			requireEncodedBits(t, text, longEncoding(text))
		}
	}
}

func TestLongEncodings(t *testing.T) {
	for length := 13; length <= impl.MaxBits; length++ {
		for _, text := range someBits(length) {
			requireEncodedBits(t, text, longEncoding(text))
		}
	}
}

// An encoding consists of the outputs from state 0 back to state 0.
func TestEncodingsAreOutputs(t *testing.T) {
	for length := range impl.MaxBits + 1 {
		for _, text := range someBits(length) {
			var want string
			state := 0
			for _, bit := range []byte(text + "00") {
				outputs, next, _ := impl.OutputsAt(state, int(bit-'0'))
				want += outputs
				state = next
			}
			requireEncodedBits(t, text, want)
			if state != 0 {
				t.Errorf("%q and two zeros end in the state %d", text, state)
			}
		}
	}
}

func TestDistancesOfBits(t *testing.T) {
	for length := range 6 {
		for _, a := range allBits(length) {
			for _, b := range allBits(length) {
				requireBitDistance(t, a, b, longBitDistance(a, b))
			}
		}
	}
	for length := range 97 {
		for _, a := range someBits(length) {
			for _, b := range someBits(length) {
				requireBitDistance(t, a, b, longBitDistance(a, b))
			}
		}
	}
	requireBitDistance(t, strings.Repeat("0", 96), strings.Repeat("1", 96), 96)
}

func TestCostsOfBits(t *testing.T) {
	for length := range 4 {
		for _, received := range allBits(3*length + 6) {
			for _, text := range allBits(length) {
				requireBitCost(t, text, received, longBitDistance(longEncoding(text), received))
			}
		}
	}
	for length := range impl.MaxBits + 1 {
		for _, text := range someBits(length) {
			for _, received := range someBits(3*length + 6) {
				requireBitCost(t, text, received, longBitDistance(longEncoding(text), received))
			}
		}
	}
}

func TestFlippedBits(t *testing.T) {
	for length := range 7 {
		for _, text := range allBits(length) {
			for _, places := range subsets(length, 0) {
				requireFlipped(t, text, places, longFlip(text, places))
			}
		}
	}
	for length := range 97 {
		for _, text := range someBits(length) {
			for count := range min(length, 5) + 1 {
				for _, places := range positionLists(length, count) {
					flipped := longFlip(text, places)
					requireFlipped(t, text, places, flipped)
					requireFlipped(t, flipped, places, text)
					requireBitDistance(t, text, flipped, count)
				}
			}
		}
	}
}

// No bits of the right number have a lower cost by CostOf, and with the same cost none come before.
func TestNoBitsCostLess(t *testing.T) {
	for length := range 4 {
		for _, received := range allBits(3*length + 6) {
			path, _ := impl.DecodeBits(received)
			requireBitCost(t, path.Bits, received, path.Cost)
			for _, text := range allBits(length) {
				cost, ok := impl.CostOf(text, received)
				if !ok || cost < path.Cost || cost == path.Cost && text < path.Bits {
					t.Fatalf("DecodeBits of %q: %+v, but %q costs %d, %v", received, path, text, cost, ok)
				}
			}
		}
	}
}

func TestAllShortReceivedBits(t *testing.T) {
	for length := range 5 {
		encodings := encodingsOf(length)
		for received := range uint64(1) << (3*length + 6) {
			text := bitTextOf(received, 3*length+6)
			requireDecodedBits(t, text, longDecoded(encodings, length, received))
			// The last six bits have no part in the paths.
			if length < 4 || received%64 == 0 {
				requirePaths(t, text, longPaths(encodings, length, received))
			}
		}
	}
}

// receivedOf returns received strings for a number of bits: any ones, and encodings with a few or many
// inverted bits.
func receivedOf(length, count int) []string {
	var list []string
	for seed := range count {
		size := 3*length + 6
		list = append(list, mixedBits(size, seed))
		encoding := []byte(longEncoding(mixedBits(length, seed)))
		for i := range size {
			if mixedByte(seed, i, 11) < byte(8*(seed%16)) {
				encoding[i] ^= 1
			}
		}
		list = append(list, string(encoding))
	}
	return append(list, someBits(3*length+6)...)
}

func TestManyReceivedBits(t *testing.T) {
	for length := 5; length <= 12; length++ {
		encodings := encodingsOf(length)
		for _, text := range receivedOf(length, 4000>>(length/2)) {
			received := numberOfBits(text)
			requireDecodedBits(t, text, longDecoded(encodings, length, received))
			if length <= 8 {
				requirePaths(t, text, longPaths(encodings, length, received))
			}
		}
	}
}

// The second reference agrees with trying all bits, so that it serves where these are too many.
func TestBestBitsFromTheEnd(t *testing.T) {
	for length := range 7 {
		encodings := encodingsOf(length)
		for _, text := range receivedOf(length, 200) {
			received := numberOfBits(text)
			if got, want := backwardsDecoded(text), longDecoded(encodings, length, received); got != want {
				t.Fatalf("backwards from %q: %+v, want %+v", text, got, want)
			}
			if got, want := backwardsPaths(text), longPaths(encodings, length, received); !slices.Equal(got, want) {
				t.Fatalf("backwards from %q: %+v, want %+v", text, got, want)
			}
		}
	}
}

func TestLongReceivedBits(t *testing.T) {
	for length := range impl.MaxBits + 1 {
		for _, text := range receivedOf(length, 100) {
			want := backwardsDecoded(text)
			requireDecodedBits(t, text, want)
			requireBitCost(t, want.Bits, text, want.Cost)
			requirePaths(t, text, backwardsPaths(text))
		}
	}
}

// All received strings are decoded for which several choices of four bits are equally good.
func TestTheLeastOfSeveralIsReturned(t *testing.T) {
	several := 0
	encodings := encodingsOf(4)
	for received := range uint64(1) << 18 {
		want := longDecoded(encodings, 4, received)
		number, _ := leastOf(encodings, received, 0, func(number int) bool {
			return uint64(number) > numberOfBits(want.Bits)
		})
		if number >= 0 && bits.OnesCount64(encodings[number]^received) == want.Cost {
			requireDecodedBits(t, bitTextOf(received, 18), want)
			several++
		}
	}
	if several < 1000 {
		t.Errorf("only %d received strings with several best bits", several)
	}
}

func TestFewWrongBitsInAllPlaces(t *testing.T) {
	for length := range 6 {
		for _, places := range upTo(3*length+6, 3) {
			for _, text := range allBits(length) {
				requireRecovered(t, text, places)
			}
		}
	}
}

// Wrong bits that are close to each other are the hardest ones.
func TestFewWrongBitsOfLongOnes(t *testing.T) {
	lists := upTo(12, 3)
	for _, length := range []int{6, 7, 10, 15, 22, 29, impl.MaxBits} {
		texts := someBits(length)
		for first := 0; first+12 <= 3*length+6; first += 3 {
			for i, list := range lists {
				places := slices.Clone(list)
				for j := range places {
					places[j] += first
				}
				requireRecovered(t, texts[i%len(texts)], places)
			}
		}
	}
}

func TestFewWrongBitsFarApart(t *testing.T) {
	for length := range impl.MaxBits + 1 {
		size := 3*length + 6
		for i, text := range someBits(length) {
			requireRecovered(t, text, nil)
			for count := 1; count <= 3; count++ {
				for _, places := range positionLists(size, count) {
					requireRecovered(t, text, places)
				}
			}
			for step := 1; step < size/3; step++ {
				first := (5*i + 7*step) % (size - 2*step)
				requireRecovered(t, text, []int{first})
				requireRecovered(t, text, []int{first, first + step})
				requireRecovered(t, text, []int{first, first + step, first + 2*step})
			}
		}
	}
}

func TestPathsOfFewBits(t *testing.T) {
	for _, received := range allBits(6) {
		requirePaths(t, received, []impl.Path{{}, {Cost: -1}, {Cost: -1}, {Cost: -1}})
	}
	requirePaths(t, "000000000", []impl.Path{{Bits: "0"}, {Cost: -1}, {Bits: "1", Cost: 3}, {Cost: -1}})
	requirePaths(t, "110111111", []impl.Path{{Bits: "0", Cost: 2}, {Cost: -1}, {Bits: "1", Cost: 1}, {Cost: -1}})
	requirePaths(t, "111010000000", []impl.Path{{Bits: "00", Cost: 4}, {Bits: "10", Cost: 3}, {Bits: "01", Cost: 5}, {Bits: "11"}})
}

func TestPathsWithTheSameDistance(t *testing.T) {
	for state, c := range []struct{ received, least, other string }{
		{"000000011110", "0000", "1100"}, {"000000100011", "0010", "1110"},
		{"000000011001", "0001", "1101"}, {"000000100100", "0011", "1111"},
	} {
		want := impl.Path{Bits: c.least, Cost: 4}
		for _, text := range []string{c.least, c.other} {
			if distance := longBitDistance(longEncoding(text)[:12], c.received); distance != 4 || longState(text) != state {
				t.Fatalf("%q leads to state %d with the distance %d", text, longState(text), distance)
			}
		}
		for _, rest := range []string{"000000", "111111", "011010"} {
			if paths, ok := impl.BestPaths(c.received + rest); !ok || len(paths) != 4 || paths[state] != want {
				t.Errorf("BestPaths of %q: %+v, %v", c.received+rest, paths, ok)
			}
		}
	}
}

func TestTheLeastOfSeveralPathsIsReturned(t *testing.T) {
	var several [4]int
	encodings := encodingsOf(4)
	for first := range uint64(1) << 12 {
		received := first << 6
		want := longPaths(encodings, 4, received)
		for state, path := range want {
			number, cost := leastOf(encodings, received, 6, func(number int) bool {
				text := bitTextOf(uint64(number), 4)
				return text > path.Bits && longState(text) == state
			})
			if number >= 0 && cost == path.Cost {
				several[state]++
			}
		}
		requirePaths(t, bitTextOf(received, 18), want)
	}
	if slices.Min(several[:]) < 500 {
		t.Errorf("only %v received strings with several best paths to a state", several)
	}
}

// The received bits for the zeros at the end have no part in the paths.
func TestPathsDoNotDependOnTheEnd(t *testing.T) {
	for length := range impl.MaxBits + 1 {
		for _, first := range someBits(3 * length) {
			want := backwardsPaths(first + "000000")
			for _, end := range []string{"111111", "101010", "000001", "100000"} {
				requirePaths(t, first+end, want)
			}
		}
	}
}
