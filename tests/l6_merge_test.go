package tests

import (
	"slices"
	"strings"
	"testing"

	"loop.example/g00294/impl"
)

// allStripeShapes are the numbers of data and of parities that a stripe may have.
func allStripeShapes() []shape {
	var shapes []shape
	for k := 1; k <= 16; k++ {
		for m := 1; m <= 4; m++ {
			shapes = append(shapes, shape{k, m})
		}
	}
	return shapes
}

// smallStripeShapes are few, with few and many data and each number of parities.
func smallStripeShapes() []shape {
	return []shape{{1, 1}, {1, 4}, {2, 2}, {3, 1}, {3, 3}, {5, 4}, {7, 2}, {16, 1}, {16, 4}}
}

// longParityMatrix is independent of the program's arithmetic.
func longParityMatrix(k, m int) impl.Matrix {
	return matrixWith(m, k, func(i, j int) byte { return longPower(longPower(3, i), j) })
}

func longStripe(data []string, m int) impl.Stripe {
	stripe := impl.Stripe{Data: slices.Clone(data)}
	bytes := matrixWith(len(data), len(data[0]), func(i, j int) byte { return data[i][j] })
	for _, row := range longMatrixProduct(longParityMatrix(len(data), m), bytes).Rows {
		stripe.Parity = append(stripe.Parity, string(row))
	}
	return stripe
}

// mixedStripe is valid, and in general not consistent.
func mixedStripe(s shape, length, seed int) impl.Stripe {
	return impl.Stripe{Data: mixedTexts(s.k, length, seed), Parity: mixedTexts(s.m, length, seed+100)}
}

// longPlus adds a multiple of a text to an equally long one.
func longPlus(text string, factor byte, other string) string {
	sum := []byte(text)
	for i := range sum {
		sum[i] ^= longProduct(factor, other[i])
	}
	return string(sum)
}

func sameStripe(a, b impl.Stripe) bool {
	return slices.Equal(a.Data, b.Data) && slices.Equal(a.Parity, b.Parity)
}

func clonedStripe(s impl.Stripe) impl.Stripe {
	return impl.Stripe{Data: slices.Clone(s.Data), Parity: slices.Clone(s.Parity)}
}

// withText replaces a text; the parities are counted behind the data.
func withText(s impl.Stripe, place int, text string) impl.Stripe {
	changed := clonedStripe(s)
	if place < len(s.Data) {
		changed.Data[place] = text
	} else {
		changed.Parity[place-len(s.Data)] = text
	}
	return changed
}

func stripeTexts(s impl.Stripe) []string {
	return slices.Concat(s.Data, s.Parity)
}

// spoiledStripe changes one byte of one text.
func spoiledStripe(s impl.Stripe, place, position int, change byte) impl.Stripe {
	text := []byte(stripeTexts(s)[place])
	text[position] ^= change
	return withText(s, place, string(text))
}

// withoutLost overwrites elements of the data.
func withoutLost(s impl.Stripe, lost []int, fill string) impl.Stripe {
	for _, place := range lost {
		s = withText(s, place, strings.Repeat(fill, len(s.Data[0])))
	}
	return s
}

func madeStripe(t *testing.T, data []string, m int) impl.Stripe {
	t.Helper()
	stripe, ok := impl.MakeStripe(data, m)
	if !ok || len(stripe.Data) != len(data) || len(stripe.Parity) != m {
		t.Fatalf("MakeStripe of %q with %d parities: %q, %v", data, m, stripe, ok)
	}
	return stripe
}

func requireRight(t *testing.T, s impl.Stripe, want bool) {
	t.Helper()
	if got, ok := impl.IsRight(s); !ok || got != want {
		t.Fatalf("IsRight of %q: %v, %v, want %v", s, got, ok, want)
	}
}

func requireMerged(t *testing.T, a, b, want impl.Stripe) {
	t.Helper()
	if got, ok := impl.MergeStripes(a, b); !ok || !sameStripe(got, want) {
		t.Fatalf("MergeStripes of %q and %q: %q, %v, want %q", a, b, got, ok, want)
	}
}

func requireChanged(t *testing.T, s impl.Stripe, i int, text string, want impl.Stripe) {
	t.Helper()
	if got, ok := impl.ChangeStripe(s, i, text); !ok || !sameStripe(got, want) {
		t.Fatalf("ChangeStripe of %q at %d to %q: %q, %v, want %q", s, i, text, got, ok, want)
	}
}

func requireAdded(t *testing.T, a, b, want impl.Stripe) {
	t.Helper()
	if got, ok := impl.AddStripes(a, b); !ok || !sameStripe(got, want) {
		t.Fatalf("AddStripes of %q and %q: %q, %v, want %q", a, b, got, ok, want)
	}
}

func requireMendedStripe(t *testing.T, s impl.Stripe, lost []int, want impl.Stripe) {
	t.Helper()
	if got, ok := impl.MendStripe(s, lost); !ok || !sameStripe(got, want) {
		t.Fatalf("MendStripe of %q at %v: %q, %v, want %q", s, lost, got, ok, want)
	}
}

func TestStripeExamples(t *testing.T) {
	a := madeStripe(t, []string{"ab", "cd"}, 2)
	b := madeStripe(t, []string{"xy"}, 2)
	// 'a' is 0x61 and 'c' is 0x63, whose triple is 0xA5; 'b' is 0x62 and 'd' is 0x64, whose triple is 0xAC.
	if want := (impl.Stripe{Data: []string{"ab", "cd"}, Parity: []string{"\x02\x06", "\xc4\xce"}}); !sameStripe(a, want) {
		t.Errorf("MakeStripe of two: %q, want %q", a, want)
	}
	if want := (impl.Stripe{Data: []string{"xy"}, Parity: []string{"xy", "xy"}}); !sameStripe(b, want) {
		t.Errorf("MakeStripe of one: %q, want %q", b, want)
	}
	// 'x' is 0x78, and 5 times that is 0x83; 'y' is 0x79, and 5 times that is 0x86.
	merged := impl.Stripe{Data: []string{"ab", "cd", "xy"}, Parity: []string{"\x7a\x7f", "\x47\x48"}}
	requireMerged(t, a, b, merged)
	requireRight(t, merged, true)
	requireMendedStripe(t, withoutLost(merged, []int{0, 2}, "?"), []int{0, 2}, merged)
	requireChanged(t, merged, 0, "cb", impl.Stripe{Data: []string{"cb", "cd", "xy"}, Parity: []string{"\x78\x7f", "\x45\x48"}})
	requireAdded(t, merged, merged, impl.Stripe{Data: []string{"\x00\x00", "\x00\x00", "\x00\x00"}, Parity: []string{"\x00\x00", "\x00\x00"}})
}

func TestParityMatrixByHand(t *testing.T) {
	got, ok := impl.ParityMatrix(4, 4)
	want := matrixOf(
		[]byte{1, 0x01, 0x01, 0x01},
		[]byte{1, 0x03, 0x05, 0x0F},
		[]byte{1, 0x05, 0x11, 0x55},
		[]byte{1, 0x0F, 0x55, 0x2E})
	if !ok || !sameMatrix(got, want) {
		t.Errorf("ParityMatrix: %v, %v, want %v", got, ok, want)
	}
}

func TestParityMatrixElements(t *testing.T) {
	for _, s := range allStripeShapes() {
		got, ok := impl.ParityMatrix(s.k, s.m)
		if !ok || !impl.GoodMatrix(got) || !sameMatrix(got, longParityMatrix(s.k, s.m)) {
			t.Errorf("ParityMatrix of %v: %v, %v", s, got, ok)
		}
	}
}

func TestStripesAreTheProduct(t *testing.T) {
	for _, s := range allStripeShapes() {
		for _, data := range dataOfShape(s.k, 0, 1, 2, 39, 40) {
			got := madeStripe(t, data, s.m)
			if !sameStripe(got, longStripe(data, s.m)) || !impl.GoodStripe(got) {
				t.Fatalf("MakeStripe of %q with %d parities: %q", data, s.m, got)
			}
			requireRight(t, got, true)
		}
	}
}

// Promise 6, for every two numbers of data that fit together.
func TestMergedStripesAreTheStripeOfAllData(t *testing.T) {
	for _, s := range allStripeShapes() {
		for first := 1; first < s.k; first++ {
			for _, data := range dataOfShape(s.k, 0, 1, 3, 40) {
				a, b := madeStripe(t, data[:first], s.m), madeStripe(t, data[first:], s.m)
				all := madeStripe(t, data, s.m)
				requireMerged(t, a, b, all)
				requireRight(t, all, true)
				if !sameStripe(all, longStripe(data, s.m)) {
					t.Fatalf("MakeStripe of %q with %d parities: %q", data, s.m, all)
				}
			}
		}
	}
}

// The second stripe is shifted, so that the order counts.
func TestMergedStripesHaveAnOrder(t *testing.T) {
	for m := 1; m <= 4; m++ {
		a, b := mixedTexts(2, 4, 1), mixedTexts(3, 4, 2)
		requireMerged(t, longStripe(a, m), longStripe(b, m), longStripe(slices.Concat(a, b), m))
		requireMerged(t, longStripe(b, m), longStripe(a, m), longStripe(slices.Concat(b, a), m))
	}
}

func TestManyStripesAreMerged(t *testing.T) {
	for m := 1; m <= 4; m++ {
		data := mixedTexts(16, 5, m)
		forward, backward := madeStripe(t, data[:1], m), madeStripe(t, data[15:], m)
		for place := 1; place < 16; place++ {
			ok := false
			if forward, ok = impl.MergeStripes(forward, madeStripe(t, data[place:place+1], m)); !ok {
				t.Fatalf("MergeStripes fails at %d", place)
			}
			if backward, ok = impl.MergeStripes(madeStripe(t, data[15-place:16-place], m), backward); !ok {
				t.Fatalf("MergeStripes fails at %d from behind", place)
			}
		}
		if want := longStripe(data, m); !sameStripe(forward, want) || !sameStripe(backward, want) {
			t.Errorf("merged one by one: %q and %q, want %q", forward, backward, want)
		}
	}
}

// A stripe may be merged with itself.
func TestStripesAreMergedWithThemselves(t *testing.T) {
	for k := 1; k <= 8; k++ {
		for m := 1; m <= 4; m++ {
			data := mixedTexts(k, 3, m)
			stripe := madeStripe(t, data, m)
			requireMerged(t, stripe, stripe, longStripe(slices.Repeat(data, 2), m))
		}
	}
}

// The parities are computed from the parities, also if these are wrong.
func TestMergedParitiesComeFromParities(t *testing.T) {
	for _, s := range allStripeShapes() {
		for first := 1; first < s.k; first++ {
			a, b := mixedStripe(shape{first, s.m}, 3, s.k), mixedStripe(shape{s.k - first, s.m}, 3, s.k+1)
			want := impl.Stripe{Data: slices.Concat(a.Data, b.Data)}
			for i := range s.m {
				factor := longPower(longPower(3, i), first)
				want.Parity = append(want.Parity, longPlus(a.Parity[i], factor, b.Parity[i]))
			}
			requireMerged(t, a, b, want)
		}
	}
}

func TestMergingAWrongStripe(t *testing.T) {
	for _, s := range smallStripeShapes() {
		if s.k == 16 {
			continue
		}
		right := longStripe(mixedTexts(s.k, 3, 4), s.m)
		other := longStripe(mixedTexts(16-s.k, 3, 5), s.m)
		for place := range s.k + s.m {
			wrong := spoiledStripe(right, place, 1, 0x20)
			for _, pair := range [][2]impl.Stripe{{wrong, other}, {other, wrong}} {
				merged, ok := impl.MergeStripes(pair[0], pair[1])
				if !ok {
					t.Fatalf("MergeStripes of %q fails", pair)
				}
				requireRight(t, merged, false)
			}
		}
	}
}

func TestAStripeWithOneByteChangedIsWrong(t *testing.T) {
	for _, s := range allStripeShapes() {
		stripe := madeStripe(t, mixedTexts(s.k, 3, 9), s.m)
		for place := range s.k + s.m {
			for position, change := range []byte{0x01, 0x80, 0xFF} {
				requireRight(t, spoiledStripe(stripe, place, position, change), false)
			}
		}
		long := madeStripe(t, mixedTexts(s.k, 40, 9), s.m)
		for _, position := range []int{0, 20, 39} {
			requireRight(t, spoiledStripe(long, position%(s.k+s.m), position, 0x10), false)
		}
	}
}

func TestAllChangesOfAByteOfAStripeAreFound(t *testing.T) {
	stripe := madeStripe(t, mixedTexts(3, 2, 77), 2)
	for place := range 5 {
		for change := 1; change < 256; change++ {
			requireRight(t, spoiledStripe(stripe, place, change%2, byte(change)), false)
		}
	}
}

// The same change of two elements is not seen by the first parity, but by all others.
func TestEveryParityCounts(t *testing.T) {
	for _, s := range allStripeShapes() {
		if s.k == 1 {
			continue
		}
		stripe := madeStripe(t, mixedTexts(s.k, 3, 9), s.m)
		both := spoiledStripe(spoiledStripe(stripe, 0, 1, 0x33), s.k-1, 1, 0x33)
		requireRight(t, both, s.m == 1)
		// Its own data have the same first parity.
		if right := longStripe(both.Data, s.m); right.Parity[0] != stripe.Parity[0] {
			t.Errorf("the first parities of %q and %q differ", right, stripe)
		}
	}
}

func TestStripesOfAnyTextsAreJudged(t *testing.T) {
	for _, s := range allStripeShapes() {
		for _, length := range []int{0, 1, 40} {
			stripe := mixedStripe(s, length, 3)
			requireRight(t, stripe, sameStripe(stripe, longStripe(stripe.Data, s.m)))
		}
	}
	// Without bytes there is nothing that could be wrong.
	requireRight(t, impl.Stripe{Data: []string{"", ""}, Parity: []string{"", "", ""}}, true)
	requireRight(t, impl.Stripe{Data: []string{"a"}, Parity: []string{"a", "a", "a", "a"}}, true)
	requireRight(t, impl.Stripe{Data: []string{"a"}, Parity: []string{"a", "a", "a", "b"}}, false)
}

func TestChangedStripesAreTheStripeOfTheChangedData(t *testing.T) {
	for _, s := range allStripeShapes() {
		for _, length := range []int{0, 1, 40} {
			stripe := madeStripe(t, mixedTexts(s.k, length, 8), s.m)
			for i := range s.k {
				texts := []string{mixedTexts(1, length, 50+i)[0], strings.Repeat("\x00", length), stripe.Data[i], stripe.Data[0]}
				for _, text := range texts {
					want := longStripe(withText(stripe, i, text).Data, s.m)
					requireChanged(t, stripe, i, text, want)
					requireRight(t, want, true)
				}
			}
		}
	}
}

// Each parity is changed by the difference alone, also if it is wrong.
func TestChangedParitiesComeFromTheDifference(t *testing.T) {
	for _, s := range allStripeShapes() {
		stripe := mixedStripe(s, 3, 6)
		for i := range s.k {
			text := mixedTexts(1, 3, 60+i)[0]
			want := withText(stripe, i, text)
			difference := longPlus(stripe.Data[i], 1, text)
			for row := range s.m {
				want.Parity[row] = longPlus(stripe.Parity[row], longPower(longPower(3, row), i), difference)
			}
			requireChanged(t, stripe, i, text, want)
			requireChanged(t, want, i, stripe.Data[i], stripe)
		}
	}
}

func TestAllElementsAreChanged(t *testing.T) {
	for _, s := range allStripeShapes() {
		stripe := madeStripe(t, mixedTexts(s.k, 5, 1), s.m)
		target := mixedTexts(s.k, 5, 2)
		for i, text := range target {
			changed, ok := impl.ChangeStripe(stripe, i, text)
			if !ok {
				t.Fatalf("ChangeStripe of %q at %d fails", stripe, i)
			}
			requireRight(t, changed, true)
			stripe = changed
		}
		if want := longStripe(target, s.m); !sameStripe(stripe, want) {
			t.Errorf("changed one by one: %q, want %q", stripe, want)
		}
	}
}

func TestAWrongStripeStaysWrongIfChanged(t *testing.T) {
	for _, s := range smallStripeShapes() {
		right := longStripe(mixedTexts(s.k, 3, 4), s.m)
		for place := range s.k + s.m {
			wrong := spoiledStripe(right, place, 2, 0x08)
			for i := range s.k {
				changed, ok := impl.ChangeStripe(wrong, i, "new")
				if !ok {
					t.Fatalf("ChangeStripe of %q at %d fails", wrong, i)
				}
				requireRight(t, changed, false)
			}
		}
	}
}

func longTextSums(a, b []string) []string {
	var sums []string
	for i := range a {
		sums = append(sums, longPlus(a[i], 1, b[i]))
	}
	return sums
}

func TestAddedStripesAreTheStripeOfTheSum(t *testing.T) {
	for _, s := range allStripeShapes() {
		for _, length := range []int{0, 1, 40} {
			zero := longStripe(slices.Repeat([]string{strings.Repeat("\x00", length)}, s.k), s.m)
			a, b := madeStripe(t, mixedTexts(s.k, length, 1), s.m), madeStripe(t, mixedTexts(s.k, length, 2), s.m)
			want := longStripe(longTextSums(a.Data, b.Data), s.m)
			requireAdded(t, a, b, want)
			requireAdded(t, b, a, want)
			requireRight(t, want, true)
			requireAdded(t, a, a, zero)
			requireAdded(t, a, zero, a)
			requireAdded(t, want, b, a)
		}
	}
}

func TestStripesAreAddedBytewise(t *testing.T) {
	for _, s := range allStripeShapes() {
		a, b := mixedStripe(s, 4, 1), mixedStripe(s, 4, 2)
		requireAdded(t, a, b, impl.Stripe{Data: longTextSums(a.Data, b.Data), Parity: longTextSums(a.Parity, b.Parity)})
	}
}

func TestAddingAWrongStripe(t *testing.T) {
	for _, s := range smallStripeShapes() {
		a, b := longStripe(mixedTexts(s.k, 3, 1), s.m), longStripe(mixedTexts(s.k, 3, 2), s.m)
		for place := range s.k + s.m {
			wrong := spoiledStripe(a, place, 0, 0x40)
			sum, ok := impl.AddStripes(wrong, b)
			if !ok {
				t.Fatalf("AddStripes of %q and %q fails", wrong, b)
			}
			requireRight(t, sum, false)
			// The same mistake in both does no harm to the sum.
			requireAdded(t, wrong, spoiledStripe(b, place, 0, 0x40), longStripe(longTextSums(a.Data, b.Data), s.m))
		}
	}
}

// losses returns all increasing lists of at most m indexes below k.
func losses(s shape) [][]int {
	var lists [][]int
	for size := 0; size <= s.m; size++ {
		lists = append(lists, choices(s.k, size)...)
	}
	return lists
}

func TestEveryLossIsMended(t *testing.T) {
	for _, s := range allStripeShapes() {
		stripe := madeStripe(t, mixedTexts(s.k, 2, 3), s.m)
		for _, lost := range losses(s) {
			requireMendedStripe(t, withoutLost(stripe, lost, "?"), lost, stripe)
		}
	}
}

func TestSeveralLengthsAreMended(t *testing.T) {
	for _, s := range smallStripeShapes() {
		for _, data := range dataOfShape(s.k, 0, 1, 40) {
			stripe := longStripe(data, s.m)
			for i, lost := range losses(s) {
				if i%7 == 0 || len(lost) == 1 {
					requireMendedStripe(t, withoutLost(stripe, lost, "\x00"), lost, stripe)
					requireMendedStripe(t, withoutLost(stripe, lost, "\xff"), lost, stripe)
					requireMendedStripe(t, stripe, lost, stripe)
				}
			}
		}
	}
}

// The equations of the lost elements are solvable wherever these are, so that none of them is left lost.
func TestTheFirstParitiesDetermineEveryLoss(t *testing.T) {
	code := longParityMatrix(16, 4)
	for _, lost := range losses(shape{16, 4}) {
		part := matrixWith(len(lost), len(lost), func(i, j int) byte { return code.Rows[i][lost[j]] })
		if determinant(part) == 0 {
			t.Errorf("the first parities do not determine %v", lost)
		}
	}
}

// Data and parities stay as they are, but for the lost elements, and these fit to the first parities.
func TestAnyStripeIsMendedByTheFirstParities(t *testing.T) {
	for _, s := range allStripeShapes() {
		stripe := mixedStripe(s, 2, 11)
		for _, lost := range losses(s) {
			got, ok := impl.MendStripe(stripe, lost)
			if !ok || !slices.Equal(got.Parity, stripe.Parity) || len(got.Data) != s.k {
				t.Fatalf("MendStripe of %q at %v: %q, %v", stripe, lost, got, ok)
			}
			fitting := longStripe(got.Data, s.m)
			if !slices.Equal(fitting.Parity[:len(lost)], stripe.Parity[:len(lost)]) {
				t.Fatalf("MendStripe of %q at %v: %q has the parities %q", stripe, lost, got, fitting.Parity)
			}
			if !sameStripe(withoutLost(got, lost, "?"), withoutLost(stripe, lost, "?")) {
				t.Fatalf("MendStripe of %q at %v changes others: %q", stripe, lost, got)
			}
		}
	}
}

func TestAWrongParityMattersIfItIsUsed(t *testing.T) {
	for _, s := range smallStripeShapes() {
		right := longStripe(mixedTexts(s.k, 3, 12), s.m)
		for _, lost := range losses(s) {
			for parity := range s.m {
				wrong := spoiledStripe(right, s.k+parity, 1, 0x11)
				got, ok := impl.MendStripe(withoutLost(wrong, lost, "?"), lost)
				if !ok || !slices.Equal(got.Parity, wrong.Parity) {
					t.Fatalf("MendStripe of %q at %v: %q, %v", wrong, lost, got, ok)
				}
				if same := slices.Equal(got.Data, right.Data); same != (parity >= len(lost)) {
					t.Fatalf("MendStripe at %v with a wrong parity %d: %q, want the data %q", lost, parity, got, right.Data)
				}
			}
		}
	}
}

// What is lost is not looked at; what is wrong and not lost is believed.
func TestAWrongElementIsBelieved(t *testing.T) {
	for _, s := range smallStripeShapes() {
		right := longStripe(mixedTexts(s.k, 3, 12), s.m)
		for place := range s.k {
			wrong := spoiledStripe(right, place, 2, 0x77)
			requireMendedStripe(t, wrong, nil, wrong)
			requireMendedStripe(t, wrong, []int{place}, right)
			for other := range s.k {
				if other == place {
					continue
				}
				got, ok := impl.MendStripe(wrong, []int{other})
				if !ok || got.Data[place] != wrong.Data[place] || got.Data[other] == right.Data[other] {
					t.Fatalf("MendStripe of %q at %d: %q, %v", wrong, other, got, ok)
				}
			}
		}
	}
}

// A merged, changed and added stripe loses elements of all its parts.
func TestStripesThroughAllFunctions(t *testing.T) {
	for m := 1; m <= 4; m++ {
		data := mixedTexts(9, 40, m)
		merged, _ := impl.MergeStripes(madeStripe(t, data[:4], m), madeStripe(t, data[4:], m))
		changed, _ := impl.ChangeStripe(merged, 6, data[0])
		sum, ok := impl.AddStripes(changed, madeStripe(t, mixedTexts(9, 40, 20), m))
		data[6] = data[0]
		want := longStripe(longTextSums(data, mixedTexts(9, 40, 20)), m)
		if !ok || !sameStripe(sum, want) {
			t.Fatalf("AddStripes: %q, %v, want %q", sum, ok, want)
		}
		lost := []int{0, 4, 6, 8}[4-m:]
		requireMendedStripe(t, withoutLost(sum, lost, "?"), lost, want)
	}
}
