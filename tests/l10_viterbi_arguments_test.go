package tests

import (
	"slices"
	"strings"
	"testing"

	"loop.example/g00294/impl"
)

func requireNotEncodedBits(t *testing.T, text string) {
	t.Helper()
	if got, ok := impl.EncodeBits(text); got != "" || ok {
		t.Errorf("EncodeBits of %q: %q, %v", text, got, ok)
	}
}

func requireNoOutputs(t *testing.T, state, bit int) {
	t.Helper()
	if got, next, ok := impl.OutputsAt(state, bit); got != "" || next != 0 || ok {
		t.Errorf("OutputsAt %d with %d: %q, %d, %v", state, bit, got, next, ok)
	}
}

func requireNoBitDistance(t *testing.T, a, b string) {
	t.Helper()
	if got, ok := impl.DistanceBits(a, b); got != 0 || ok {
		t.Errorf("DistanceBits of %q and %q: %d, %v", a, b, got, ok)
	}
}

func requireNoBitCost(t *testing.T, text, received string) {
	t.Helper()
	if got, ok := impl.CostOf(text, received); got != 0 || ok {
		t.Errorf("CostOf %q and %q: %d, %v", text, received, got, ok)
	}
}

// requireNotReceived checks that no function takes these received bits.
func requireNotReceived(t *testing.T, received string) {
	t.Helper()
	if got, ok := impl.DecodeBits(received); got != (impl.Path{}) || ok {
		t.Errorf("DecodeBits of %q: %+v, %v", received, got, ok)
	}
	if got, ok := impl.BestPaths(received); got != nil || ok {
		t.Errorf("BestPaths of %q: %+v, %v", received, got, ok)
	}
	for _, length := range []int{0, 1, 2, len(received)/3 - 2, 29, 30, 31} {
		if length >= 0 {
			requireNoBitCost(t, strings.Repeat("0", length), received)
		}
	}
}

func requireNotFlipped(t *testing.T, text string, places []int) {
	t.Helper()
	if got, ok := impl.FlipBits(text, places); got != "" || ok {
		t.Errorf("FlipBits of %q at %v: %q, %v", text, places, got, ok)
	}
}

// wrongBits puts what is no bit at the first, at a middle and at the last place of bits, in as many
// bytes as it has: bytes next to the bits, other ones, and characters of two to four bytes.
func wrongBits(text string) []string {
	var list []string
	for _, wrong := range []string{
		"/", "2", "\x00", "\x01", " ", "\n", "-", "a", "O", "l", "\x7f", "\x80", "\xb0", "\xb1", "\xff",
		"é", "\xc0\xb0", "٠", "١", "０", "１", "𝟎", "𝟏",
	} {
		last := len(text) - len(wrong)
		if last < 0 {
			continue
		}
		for _, first := range []int{0, last / 2, last} {
			list = append(list, text[:first]+wrong+text[first+len(wrong):])
		}
	}
	return list
}

func TestStatesAndBitsOutside(t *testing.T) {
	for state := -2; state <= 6; state++ {
		for bit := -2; bit <= 4; bit++ {
			if state < 0 || state > 3 || bit < 0 || bit > 1 {
				requireNoOutputs(t, state, bit)
			} else if _, _, ok := impl.OutputsAt(state, bit); !ok {
				t.Errorf("OutputsAt %d with %d fails", state, bit)
			}
		}
	}
	for _, number := range append(unusualInts(), 1<<32+2, 258, '0', '1') {
		requireNoOutputs(t, number, 0)
		requireNoOutputs(t, number, 1)
		requireNoOutputs(t, 0, number)
		requireNoOutputs(t, 3, number)
		requireNoOutputs(t, number, number)
	}
}

func TestNumbersOfEncodedBits(t *testing.T) {
	for _, length := range []int{0, 1, 2, 28, 29, 30} {
		for _, text := range someBits(length) {
			requireEncodedBits(t, text, longEncoding(text))
		}
	}
	for _, length := range []int{31, 32, 33, 62, 96, 256, 286, 1000} {
		for _, text := range someBits(length) {
			requireNotEncodedBits(t, text)
			requireNoBitCost(t, text, longEncoding(text))
			requireNoBitCost(t, text, longEncoding(text)[:96])
		}
	}
}

func TestLengthsOfReceivedBits(t *testing.T) {
	for _, length := range []int{6, 9, 12, 93, 96} {
		for _, received := range someBits(length) {
			requireDecodedBits(t, received, backwardsDecoded(received))
			requirePaths(t, received, backwardsPaths(received))
		}
	}
	for length := range 130 {
		if length >= 6 && length <= 96 && length%3 == 0 {
			continue
		}
		for _, received := range someBits(length) {
			requireNotReceived(t, received)
		}
	}
	for _, length := range []int{256, 262, 300, 1002, 3000} {
		requireNotReceived(t, strings.Repeat("0", length))
	}
	requireNotReceived(t, strings.Repeat("x", 6))
}

func TestLengthsOfComparedBits(t *testing.T) {
	for length := range 97 {
		requireBitDistance(t, strings.Repeat("0", length), strings.Repeat("10", length)[:length], (length+1)/2)
		for other := range 100 {
			if other != length {
				requireNoBitDistance(t, strings.Repeat("0", length), strings.Repeat("0", other))
				requireNoBitDistance(t, strings.Repeat("0", other), strings.Repeat("1", length))
			}
		}
	}
	for _, length := range []int{97, 98, 99, 192, 256, 352, 1000} {
		for _, a := range someBits(length) {
			requireNoBitDistance(t, a, a)
			requireNoBitDistance(t, a, mixedBits(length, 1))
			requireNoBitDistance(t, a, a[:96])
			requireNoBitDistance(t, a[:96], a)
			requireNoBitDistance(t, a, "")
		}
	}
}

func TestLengthsOfBitsAndReceivedBits(t *testing.T) {
	for length := range 34 {
		for size := range 110 {
			text, received := mixedBits(length, 1), mixedBits(size, 2)
			if length <= 30 && size == 3*length+6 {
				requireBitCost(t, text, received, longBitDistance(longEncoding(text), received))
			} else {
				requireNoBitCost(t, text, received)
			}
		}
	}
}

func TestLengthsOfFlippedBits(t *testing.T) {
	for length := range 97 {
		text := mixedBits(length, 1)
		requireFlipped(t, text, nil, text)
		requireFlipped(t, text, []int{}, text)
	}
	for _, length := range []int{97, 98, 99, 256, 300, 1000} {
		for _, text := range someBits(length) {
			for _, places := range [][]int{nil, {}, {0}, {95}, {96}, {length - 1}, {0, 1, 2}} {
				requireNotFlipped(t, text, places)
			}
		}
	}
}

func TestBytesThatAreNoBits(t *testing.T) {
	for _, length := range []int{1, 2, 3, 6, 15, 29, 30} {
		for _, text := range someBits(length) {
			for _, wrong := range wrongBits(text) {
				requireNotEncodedBits(t, wrong)
				requireNoBitCost(t, wrong, longEncoding(text))
			}
		}
	}
	for _, length := range []int{6, 9, 12, 33, 93, 96} {
		for _, text := range someBits(length) {
			for _, wrong := range wrongBits(text) {
				requireNotReceived(t, wrong)
			}
		}
	}
}

func TestComparedBytesThatAreNoBits(t *testing.T) {
	for _, length := range []int{1, 2, 3, 4, 7, 30, 31, 95, 96} {
		for _, text := range someBits(length) {
			for _, wrong := range wrongBits(text) {
				requireNoBitDistance(t, wrong, text)
				requireNoBitDistance(t, text, wrong)
				requireNoBitDistance(t, wrong, wrong)
				for _, places := range [][]int{nil, {0}, {length / 2}, {length - 1}} {
					requireNotFlipped(t, wrong, places)
				}
			}
		}
	}
}

// A character of three bytes is one character, but no three bits, and neither one bit.
func TestBitsAreBytes(t *testing.T) {
	requireNotReceived(t, "000０")
	requireNotReceived(t, strings.Repeat("０", 2))
	requireNotReceived(t, strings.Repeat("０", 6))
	requireNotReceived(t, strings.Repeat("1", 5)+"１")
	requireNotEncodedBits(t, strings.Repeat("１", 10))
	requireNoBitDistance(t, "é", "0")
	requireNoBitDistance(t, "é", "00")
}

func TestPlacesOfFlippedBits(t *testing.T) {
	for _, length := range []int{1, 2, 3, 10, 95, 96} {
		for _, text := range someBits(length) {
			last := length - 1
			requireFlipped(t, text, []int{0}, longFlip(text, []int{0}))
			requireFlipped(t, text, []int{last}, longFlip(text, []int{last}))
			for _, wrong := range append(unusualInts(), -2, -length, length, length+1, 2*length, 300) {
				requireNotFlipped(t, text, []int{wrong})
				requireNotFlipped(t, text, []int{0, wrong})
				requireNotFlipped(t, text, []int{wrong, last})
				requireNotFlipped(t, text, []int{0, wrong, last})
			}
		}
	}
	for _, wrong := range append(unusualInts(), 0, 1) {
		requireNotFlipped(t, "", []int{wrong})
	}
}

func TestPlacesThatDoNotIncrease(t *testing.T) {
	for length := 1; length <= 5; length++ {
		text := mixedBits(length, 1)
		for count := 2; count <= 4; count++ {
			digits := make([]int, count)
			for more := true; more; more = nextDigits(digits, length) {
				places := slices.Clone(digits)
				if slices.IsSorted(digits) && len(slices.Compact(slices.Clone(digits))) == count {
					requireFlipped(t, text, places, longFlip(text, digits))
				} else {
					requireNotFlipped(t, text, places)
				}
			}
		}
	}
	text := mixedBits(96, 1)
	all := make([]int, 96)
	for i := range all {
		all[i] = i
	}
	requireFlipped(t, text, all, longFlip(text, all))
	for i := range all {
		wrong := slices.Clone(all)
		wrong[i] = all[(i+1)%96]
		requireNotFlipped(t, text, wrong)
		requireNotFlipped(t, text, slices.Insert(slices.Clone(all), i, i))
	}
}

func testPlaces() [][]int {
	return [][]int{nil, {}, {0}, {2}, {0, 1, 2}, {0, 5}, {3, 4, 95}, {96}, {-1}, {-1, 0}, {1, 0}, {2, 2}, {0, 1, 97}}
}

func TestPlacesAreNotModified(t *testing.T) {
	for _, list := range testPlaces() {
		for _, text := range []string{"", "0", "101", "10x", "110110", strings.Repeat("01", 48), strings.Repeat("0", 97)} {
			places, memory := roomy(list, 4)
			requireKeptList(t, memory, func() { impl.FlipBits(text, places) })
		}
	}
}

// What stands behind a list would make it invalid, or invert one more bit, if it were read.
func TestSparePlacesAreNotRead(t *testing.T) {
	text := mixedBits(96, 3)
	for _, list := range [][]int{nil, {}, {0}, {0, 1}, {3, 50}, {95}} {
		for _, behind := range []int{-1, 0, 51, 94, 95, 96, 1000} {
			places, _ := roomy(list, behind)
			requireFlipped(t, text, places, longFlip(text, list))
		}
	}
}

func TestPathsShareNoMemory(t *testing.T) {
	for length := range impl.MaxBits + 1 {
		for _, received := range someBits(3*length + 6)[:4] {
			requireOwnList(t, func() ([]impl.Path, bool) { return impl.BestPaths(received) }, []int{})
		}
	}
}

// Encodings and inverted bits can be equal to their arguments or to parts of these, and so could be
// handed back in their memory.
func TestBitTextsShareNoMemory(t *testing.T) {
	for length := 2; length <= impl.MaxBits; length++ {
		for _, text := range someBits(length) {
			text := strings.Clone(text)
			encoding, _ := impl.EncodeBits(text)
			path, _ := impl.DecodeBits(encoding)
			paths, _ := impl.BestPaths(encoding)
			results := []string{path.Bits}
			for _, path := range paths {
				results = append(results, path.Bits)
			}
			requireApart(t, "EncodeBits", []string{encoding}, []string{text})
			requireApart(t, "DecodeBits and BestPaths", results, []string{encoding})
			for _, places := range [][]int{nil, {}, {0}, {length - 1}} {
				flipped, _ := impl.FlipBits(text, places)
				requireApart(t, "FlipBits", []string{flipped}, []string{text})
			}
		}
	}
}

func TestBitCallsKeepNoState(t *testing.T) {
	for range 3 {
		requireNoOutputs(t, 4, 0)
		requireNotEncodedBits(t, "12")
		requireNotReceived(t, "11110111")
		requireNoBitDistance(t, "1", "")
		requireNotFlipped(t, "1", []int{1})
		requireOutputs(t, 2, 1, "010", 3)
		requireEncodedBits(t, "1", "111101110")
		requireDecodedBits(t, "111101110", impl.Path{Bits: "1"})
		requireDecodedBits(t, "000000", impl.Path{})
		requirePaths(t, "111101110", []impl.Path{{Bits: "0", Cost: 3}, {Cost: -1}, {Bits: "1"}, {Cost: -1}})
		requireBitCost(t, "0", "111101110", 7)
		requireBitDistance(t, "0110", "1010", 2)
		requireFlipped(t, "0110", []int{0, 3}, "1111")
	}
}
