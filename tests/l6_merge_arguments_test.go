package tests

import (
	"slices"
	"strings"
	"testing"

	"loop.example/g00294/impl"
)

func requireNoStripe(t *testing.T, name string, s impl.Stripe, ok bool) {
	t.Helper()
	if ok || len(s.Data) != 0 || len(s.Parity) != 0 {
		t.Errorf("%s: %q, %v", name, s, ok)
	}
}

func requireNotMade(t *testing.T, data []string, m int) {
	t.Helper()
	stripe, ok := impl.MakeStripe(data, m)
	requireNoStripe(t, "MakeStripe", stripe, ok)
}

func requireNotMerged(t *testing.T, a, b impl.Stripe) {
	t.Helper()
	stripe, ok := impl.MergeStripes(a, b)
	requireNoStripe(t, "MergeStripes", stripe, ok)
}

func requireNotChanged(t *testing.T, s impl.Stripe, i int, text string) {
	t.Helper()
	stripe, ok := impl.ChangeStripe(s, i, text)
	requireNoStripe(t, "ChangeStripe", stripe, ok)
}

func requireNotAdded(t *testing.T, a, b impl.Stripe) {
	t.Helper()
	stripe, ok := impl.AddStripes(a, b)
	requireNoStripe(t, "AddStripes", stripe, ok)
}

func requireNotMendedStripe(t *testing.T, s impl.Stripe, lost []int) {
	t.Helper()
	stripe, ok := impl.MendStripe(s, lost)
	requireNoStripe(t, "MendStripe", stripe, ok)
}

// requireBadStripe checks that no function takes this stripe.
func requireBadStripe(t *testing.T, s impl.Stripe) {
	t.Helper()
	if impl.GoodStripe(s) {
		t.Errorf("GoodStripe of %q is true", s)
	}
	if right, ok := impl.IsRight(s); right || ok {
		t.Errorf("IsRight of %q: %v, %v", s, right, ok)
	}
	partner := longStripe([]string{"ab"}, 2)
	requireNotMerged(t, s, partner)
	requireNotMerged(t, partner, s)
	requireNotMerged(t, s, s)
	requireNotAdded(t, s, partner)
	requireNotAdded(t, partner, s)
	requireNotAdded(t, s, s)
	for i := -1; i <= len(s.Data) && i < 20; i++ {
		requireNotMendedStripe(t, s, []int{i})
		for _, text := range append([]string{"", "ab"}, s.Data[:min(len(s.Data), 2)]...) {
			requireNotChanged(t, s, i, text)
		}
	}
	requireNotMendedStripe(t, s, nil)
	requireNotMendedStripe(t, s, []int{})
	requireNotMendedStripe(t, s, []int{0, 1})
}

// stripeOf has texts of equal length.
func stripeOf(k, m, length int) impl.Stripe {
	return mixedStripe(shape{k, m}, length, 1)
}

func TestParityMatrixSides(t *testing.T) {
	numbers := append(unusualInts(), 0, 1, 2, 3, 4, 5, 6, 15, 16, 17, 18)
	for _, k := range numbers {
		for _, m := range numbers {
			good := k >= 1 && k <= 16 && m >= 1 && m <= 4
			code, ok := impl.ParityMatrix(k, m)
			requireSides(t, "ParityMatrix", code, ok, good, m, k)
			if good && !sameMatrix(code, longParityMatrix(k, m)) {
				t.Errorf("ParityMatrix(%d, %d): %v", k, m, code)
			}
		}
	}
}

func TestMakeStripeCounts(t *testing.T) {
	for count := range 20 {
		data := mixedTexts(count, 3, 1)
		for _, m := range append(unusualInts(), 0, 1, 2, 3, 4, 5, 6, 16) {
			if count < 1 || count > 16 || m < 1 || m > 4 {
				requireNotMade(t, data, m)
			} else if got := madeStripe(t, data, m); !sameStripe(got, longStripe(data, m)) {
				t.Errorf("MakeStripe of %q with %d parities: %q", data, m, got)
			}
		}
	}
	requireNotMade(t, nil, 2)
	requireNotMade(t, []string{}, 2)
	requireNotMade(t, make([]string, 1000), 2)
}

func TestMakeStripeLengths(t *testing.T) {
	for _, s := range allStripeShapes() {
		for _, length := range []int{0, 1, 39, 40, 41, 80, 81, 1000} {
			data := mixedTexts(s.k, length, 2)
			if length > 40 {
				requireNotMade(t, data, s.m)
			} else if got := madeStripe(t, data, s.m); !sameStripe(got, longStripe(data, s.m)) {
				t.Errorf("MakeStripe of %q with %d parities: %q", data, s.m, got)
			}
		}
	}
}

func TestMakeStripeOfUnequalLengths(t *testing.T) {
	for k := 2; k <= 16; k++ {
		for _, length := range []int{0, 1, 2, 39, 40} {
			data := mixedTexts(k, length, 2)
			for place := range data {
				for _, other := range []int{0, 1, 2, 3, 39, 40, 41} {
					wrong := slices.Clone(data)
					wrong[place] = strings.Repeat("x", other)
					if other != length {
						requireNotMade(t, wrong, 1+place%4)
					}
				}
			}
		}
	}
}

func TestGoodStripe(t *testing.T) {
	if impl.MaxSide != 16 || impl.MaxShard != 40 {
		t.Errorf("the limits are %d and %d", impl.MaxSide, impl.MaxShard)
	}
	for k := range 20 {
		for m := range 8 {
			for _, length := range []int{0, 1, 2, 39, 40, 41, 80, 1000} {
				stripe := stripeOf(k, m, length)
				if k >= 1 && k <= 16 && m >= 1 && m <= 4 && length <= 40 {
					if !impl.GoodStripe(stripe) {
						t.Errorf("GoodStripe of %q is false", stripe)
					}
				} else {
					requireBadStripe(t, stripe)
				}
			}
		}
	}
	requireBadStripe(t, impl.Stripe{})
	requireBadStripe(t, impl.Stripe{Data: []string{"ab"}})
	requireBadStripe(t, impl.Stripe{Parity: []string{"ab"}})
	requireBadStripe(t, impl.Stripe{Data: make([]string, 1000), Parity: make([]string, 2)})
	requireBadStripe(t, impl.Stripe{Data: make([]string, 2), Parity: make([]string, 1000)})
}

// The lengths are judged wherever they are, in the data and in the parities.
func TestStripesOfUnequalLengths(t *testing.T) {
	for _, s := range smallStripeShapes() {
		for _, length := range []int{0, 1, 2, 39, 40} {
			stripe := stripeOf(s.k, s.m, length)
			for place := range s.k + s.m {
				for _, other := range []int{0, 1, 2, 3, 38, 39, 40, 41} {
					if other != length {
						requireBadStripe(t, withText(stripe, place, strings.Repeat("x", other)))
					}
				}
			}
			longer := stripeOf(s.k, s.m, length+1)
			requireBadStripe(t, impl.Stripe{Data: stripe.Data, Parity: longer.Parity})
			requireBadStripe(t, impl.Stripe{Data: longer.Data, Parity: stripe.Parity})
		}
	}
}

func TestMergedCounts(t *testing.T) {
	for m := 1; m <= 4; m++ {
		for first := 1; first <= 16; first++ {
			for second := 1; second <= 16; second++ {
				data := mixedTexts(first+second, 2, m)
				a, b := longStripe(data[:first], m), longStripe(data[first:], m)
				if first+second <= 16 {
					requireMerged(t, a, b, longStripe(data, m))
				} else {
					requireNotMerged(t, a, b)
				}
			}
		}
	}
}

func TestStripesThatDoNotFitAreNotMerged(t *testing.T) {
	for m := 1; m <= 4; m++ {
		for other := 1; other <= 4; other++ {
			for _, length := range []int{0, 1, 2, 39, 40} {
				for _, otherLength := range []int{0, 1, 2, 39, 40} {
					a, b := stripeOf(2, m, length), stripeOf(3, other, otherLength)
					if m != other || length != otherLength {
						requireNotMerged(t, a, b)
						requireNotMerged(t, b, a)
					} else if got, ok := impl.MergeStripes(a, b); !ok || len(got.Data) != 5 {
						t.Errorf("MergeStripes of %q and %q: %q, %v", a, b, got, ok)
					}
				}
			}
		}
	}
}

func TestChangeStripeIndexes(t *testing.T) {
	for _, s := range allStripeShapes() {
		for _, length := range []int{0, 2} {
			stripe := longStripe(mixedTexts(s.k, length, 1), s.m)
			text := strings.Repeat("x", length)
			for _, i := range append(unusualInts(), 0, s.k-1, s.k, s.k+1, s.k+s.m, 16, 17) {
				if i < 0 || i >= s.k {
					requireNotChanged(t, stripe, i, text)
				} else {
					requireChanged(t, stripe, i, text, longStripe(withText(stripe, i, text).Data, s.m))
				}
			}
		}
	}
}

func TestChangeStripeLengths(t *testing.T) {
	for _, s := range smallStripeShapes() {
		for _, length := range []int{0, 1, 2, 39, 40} {
			stripe := longStripe(mixedTexts(s.k, length, 1), s.m)
			for _, other := range []int{0, 1, 2, 3, 38, 39, 40, 41, 80} {
				text := strings.Repeat("y", other)
				for i := range s.k {
					if other != length {
						requireNotChanged(t, stripe, i, text)
					} else {
						requireChanged(t, stripe, i, text, longStripe(withText(stripe, i, text).Data, s.m))
					}
				}
			}
		}
	}
}

func TestStripesOfUnequalShapeAreNotAdded(t *testing.T) {
	for _, s := range smallStripeShapes() {
		for _, other := range smallStripeShapes() {
			for _, length := range []int{0, 1, 2, 39, 40} {
				a, b := stripeOf(s.k, s.m, 2), stripeOf(other.k, other.m, length)
				if s != other || length != 2 {
					requireNotAdded(t, a, b)
					requireNotAdded(t, b, a)
				} else {
					requireAdded(t, a, b, impl.Stripe{Data: longTextSums(a.Data, b.Data), Parity: longTextSums(a.Parity, b.Parity)})
				}
			}
		}
	}
	// As many texts in all do not make up for unequal numbers.
	requireNotAdded(t, stripeOf(3, 2, 2), stripeOf(2, 3, 2))
	requireNotAdded(t, stripeOf(3, 2, 2), stripeOf(3, 3, 2))
	requireNotAdded(t, stripeOf(3, 2, 2), stripeOf(4, 2, 2))
}

func TestMendStripeWithoutALoss(t *testing.T) {
	for _, s := range allStripeShapes() {
		for _, length := range []int{0, 1, 40} {
			for _, stripe := range []impl.Stripe{stripeOf(s.k, s.m, length), longStripe(mixedTexts(s.k, length, 5), s.m)} {
				requireMendedStripe(t, stripe, nil, stripe)
				requireMendedStripe(t, stripe, []int{}, stripe)
			}
		}
	}
}

func TestMoreLossesThanParities(t *testing.T) {
	for _, s := range allStripeShapes() {
		stripe := longStripe(mixedTexts(s.k, 2, 5), s.m)
		for size := range min(s.k, 6) + 1 {
			var front, back []int
			for i := range size {
				front, back = append(front, i), append(back, s.k-size+i)
			}
			for _, lost := range [][]int{front, back} {
				if size <= s.m {
					requireMendedStripe(t, withoutLost(stripe, lost, "?"), lost, stripe)
				} else {
					requireNotMendedStripe(t, stripe, lost)
				}
			}
		}
		requireNotMendedStripe(t, stripe, make([]int, 1000))
	}
}

func TestLossesOutOfRange(t *testing.T) {
	for _, s := range allStripeShapes() {
		stripe := longStripe(mixedTexts(s.k, 2, 5), s.m)
		for _, i := range append(unusualInts(), s.k, s.k+1, s.k+s.m-1, 16, 17) {
			if i >= 0 && i < s.k {
				continue
			}
			requireNotMendedStripe(t, stripe, []int{i})
			requireNotMendedStripe(t, stripe, []int{0, i})
			requireNotMendedStripe(t, stripe, []int{i, s.k - 1})
			requireNotMendedStripe(t, stripe, []int{i, 0})
		}
	}
}

func TestLossesThatDoNotIncrease(t *testing.T) {
	for _, lost := range [][]int{
		{0, 0}, {1, 1}, {15, 15}, {1, 0}, {15, 0}, {0, 1, 1}, {0, 0, 1}, {0, 2, 1}, {1, 0, 2}, {2, 1, 0},
		{0, 1, 0}, {0, 1, 2, 2}, {0, 1, 3, 2}, {3, 2, 1, 0}, {0, 0, 0, 0}, {15, 14}, {12, 13, 15, 14},
	} {
		for m := 1; m <= 4; m++ {
			requireNotMendedStripe(t, longStripe(mixedTexts(16, 2, 5), m), lost)
			requireNotMendedStripe(t, longStripe(mixedTexts(16, 0, 5), m), lost)
		}
	}
}

// roomyStripe has spare memory behind both lists.
type roomyStripe struct {
	stripe impl.Stripe
	data   []string
	parity []string
}

func newRoomyStripe(s impl.Stripe) roomyStripe {
	room := roomyStripe{}
	room.stripe.Data, room.data = roomy(s.Data, "spare")
	room.stripe.Parity, room.parity = roomy(s.Parity, "spare")
	return room
}

func (r roomyStripe) requireUnmodified(t *testing.T, call func()) {
	t.Helper()
	data, parity := slices.Clone(r.data), slices.Clone(r.parity)
	call()
	if !slices.Equal(r.data, data) || !slices.Equal(r.parity, parity) {
		t.Errorf("the stripe %q became %q", [][]string{data, parity}, [][]string{r.data, r.parity})
	}
}

func testStripes() []impl.Stripe {
	return []impl.Stripe{
		{}, {Data: []string{}, Parity: []string{}}, {Data: []string{"ab"}}, {Parity: []string{"ab"}},
		longStripe(mixedTexts(3, 2, 1), 2), longStripe(mixedTexts(1, 2, 2), 2), longStripe(mixedTexts(16, 40, 1), 4),
		longStripe(mixedTexts(3, 0, 1), 2), stripeOf(3, 2, 2), stripeOf(8, 4, 40), stripeOf(17, 2, 2), stripeOf(3, 5, 2),
		stripeOf(3, 2, 41), withText(stripeOf(3, 2, 2), 1, "x"), withText(stripeOf(3, 2, 2), 4, "xyz"),
	}
}

func testLosses() [][]int {
	return [][]int{nil, {}, {0}, {2}, {-1}, {3}, {16}, {0, 2}, {2, 0}, {1, 1}, {0, 1, 2}, {0, 3, 8, 15}, {0, 1, 2, 3, 4}}
}

func TestStripeArgumentsAreNotModified(t *testing.T) {
	for _, first := range testStripes() {
		for _, second := range testStripes() {
			a, b := newRoomyStripe(first), newRoomyStripe(second)
			a.requireUnmodified(t, func() {
				b.requireUnmodified(t, func() {
					impl.MergeStripes(a.stripe, b.stripe)
					impl.MergeStripes(a.stripe, a.stripe)
					impl.AddStripes(a.stripe, b.stripe)
					impl.AddStripes(a.stripe, a.stripe)
				})
				impl.GoodStripe(a.stripe)
				impl.IsRight(a.stripe)
				for i := -1; i <= 17; i++ {
					impl.MakeStripe(a.stripe.Data, i)
					impl.ChangeStripe(a.stripe, i, "xy")
					impl.ChangeStripe(a.stripe, i, "")
				}
			})
		}
	}
}

func TestLossesAreNotModified(t *testing.T) {
	for _, stripe := range testStripes() {
		for _, list := range testLosses() {
			a := newRoomyStripe(stripe)
			lost, memory := roomy(list, 99)
			before := slices.Clone(memory)
			a.requireUnmodified(t, func() { impl.MendStripe(a.stripe, lost) })
			if !slices.Equal(memory, before) {
				t.Errorf("the list %v became %v", before, memory)
			}
		}
	}
}

// What stands behind a list would make it valid, or invalid, if it were read.
func TestSpareStripeArgumentsAreNotRead(t *testing.T) {
	right := longStripe(mixedTexts(3, 2, 1), 2)
	requireBadStripe(t, impl.Stripe{Data: right.Data[:0], Parity: right.Parity})
	requireBadStripe(t, impl.Stripe{Data: right.Data, Parity: right.Parity[:0]})
	requireNotMade(t, right.Data[:0], 2)
	requireRight(t, impl.Stripe{Data: right.Data, Parity: right.Parity[:1]}, true)
	requireRight(t, impl.Stripe{Data: right.Data[:2], Parity: right.Parity}, false)
	for _, s := range allStripeShapes() {
		want := longStripe(mixedTexts(s.k, 2, 1), s.m)
		roomyWant := newRoomyStripe(want).stripe
		requireRight(t, roomyWant, true)
		if got := madeStripe(t, roomyWant.Data, s.m); !sameStripe(got, want) {
			t.Errorf("MakeStripe of %q: %q", roomyWant.Data, got)
		}
		requireChanged(t, roomyWant, 0, "xy", longStripe(withText(want, 0, "xy").Data, s.m))
		requireAdded(t, roomyWant, roomyWant, longStripe(slices.Repeat([]string{"\x00\x00"}, s.k), s.m))
		lost, _ := roomy([]int{s.k - 1}, s.k)
		requireMendedStripe(t, withoutLost(roomyWant, lost, "?"), lost, want)
		requireMendedStripe(t, roomyWant, lost[:0], want)
		if s.k <= 8 {
			requireMerged(t, roomyWant, roomyWant, longStripe(slices.Repeat(want.Data, 2), s.m))
		}
	}
}

// The parities may stand behind the data in one and the same memory.
func TestListsOfAStripeThatShareMemory(t *testing.T) {
	for _, s := range allStripeShapes() {
		want := longStripe(mixedTexts(s.k, 2, 1), s.m)
		memory := append(stripeTexts(want), "spare")
		before := slices.Clone(memory)
		stripe := impl.Stripe{Data: memory[:s.k], Parity: memory[s.k : s.k+s.m]}
		requireRight(t, stripe, true)
		requireChanged(t, stripe, s.k-1, "xy", longStripe(withText(want, s.k-1, "xy").Data, s.m))
		requireAdded(t, stripe, stripe, longStripe(slices.Repeat([]string{"\x00\x00"}, s.k), s.m))
		requireMendedStripe(t, stripe, []int{0}, want)
		if s.k <= 8 {
			requireMerged(t, stripe, stripe, longStripe(slices.Repeat(want.Data, 2), s.m))
		}
		if !slices.Equal(memory, before) {
			t.Errorf("the texts %q became %q", before, memory)
		}
	}
	// The same list serves as data and as parities.
	texts := []string{"ab", "ab"}
	requireRight(t, impl.Stripe{Data: texts[:1], Parity: texts}, true)
	requireRight(t, impl.Stripe{Data: texts, Parity: texts}, false)
}

// requireOwnStripe writes to both lists of a result and looks at the other one, at the arguments and at other results.
func requireOwnStripe(t *testing.T, name string, call func() (impl.Stripe, bool), arguments ...roomyStripe) {
	t.Helper()
	first, _ := call()
	second, ok := call()
	want := clonedStripe(second)
	kept := func() {
		clear(first.Data[:cap(first.Data)])
		clear(first.Parity[:cap(first.Parity)])
		if !ok || !sameStripe(second, want) {
			t.Errorf("the results of two calls of %s share memory", name)
		}
		clear(second.Data[:cap(second.Data)])
		if !slices.Equal(second.Parity, want.Parity) {
			t.Errorf("the lists of a result of %s share memory", name)
		}
		copy(second.Data, want.Data)
		clear(second.Parity[:cap(second.Parity)])
		if !slices.Equal(second.Data, want.Data) {
			t.Errorf("the lists of a result of %s share memory", name)
		}
	}
	for _, argument := range arguments {
		inner := kept
		kept = func() { argument.requireUnmodified(t, inner) }
	}
	kept()
	if again, ok := call(); !ok || !sameStripe(again, want) {
		t.Errorf("writing to a result of %s changed the next one", name)
	}
}

func TestStripeResultsShareNoMemory(t *testing.T) {
	for _, s := range allStripeShapes() {
		requireUnsharedMatrix(t, func() (impl.Matrix, bool) { return impl.ParityMatrix(s.k, s.m) })
		a := newRoomyStripe(longStripe(mixedTexts(s.k, 3, 1), s.m))
		b := newRoomyStripe(longStripe(mixedTexts(s.k, 3, 2), s.m))
		requireOwnStripe(t, "MakeStripe", func() (impl.Stripe, bool) { return impl.MakeStripe(a.stripe.Data, s.m) }, a)
		requireOwnStripe(t, "ChangeStripe", func() (impl.Stripe, bool) { return impl.ChangeStripe(a.stripe, s.k-1, "new") }, a)
		requireOwnStripe(t, "AddStripes", func() (impl.Stripe, bool) { return impl.AddStripes(a.stripe, b.stripe) }, a, b)
		requireOwnStripe(t, "MendStripe", func() (impl.Stripe, bool) { return impl.MendStripe(a.stripe, []int{0}) }, a)
		requireOwnStripe(t, "MendStripe", func() (impl.Stripe, bool) { return impl.MendStripe(a.stripe, nil) }, a)
		if s.k <= 8 {
			requireOwnStripe(t, "MergeStripes", func() (impl.Stripe, bool) { return impl.MergeStripes(a.stripe, b.stripe) }, a, b)
		}
	}
}

// Texts that stay as they are could be handed back in the memory of the argument.
func TestStripeTextsShareNoMemory(t *testing.T) {
	for _, s := range allStripeShapes() {
		a, b := longStripe(mixedTexts(s.k, 12, 1), s.m), longStripe(mixedTexts(s.k, 12, 2), s.m)
		text := strings.Repeat("x", 12)
		given := slices.Concat(stripeTexts(a), stripeTexts(b), []string{text})
		requireApart(t, "MakeStripe", stripeTexts(madeStripe(t, a.Data, s.m)), given)
		merged, _ := impl.MergeStripes(a, b)
		requireApart(t, "MergeStripes", stripeTexts(merged), given)
		sum, _ := impl.AddStripes(a, b)
		requireApart(t, "AddStripes", stripeTexts(sum), given)
		for i := range s.k {
			changed, _ := impl.ChangeStripe(a, i, text)
			requireApart(t, "ChangeStripe", stripeTexts(changed), given)
			mended, _ := impl.MendStripe(a, []int{i})
			requireApart(t, "MendStripe", stripeTexts(mended), given)
		}
		mended, _ := impl.MendStripe(a, nil)
		requireApart(t, "MendStripe", stripeTexts(mended), given)
	}
}

func TestStripeCallsKeepNoState(t *testing.T) {
	data := mixedTexts(4, 3, 15)
	right := longStripe(data, 2)
	for range 2 {
		requireNotMade(t, data, 5)
		requireNotMerged(t, right, longStripe(data, 3))
		requireNotChanged(t, right, 4, "abc")
		requireNotAdded(t, right, longStripe(data[:3], 2))
		requireNotMendedStripe(t, right, []int{1, 0})
		requireBadStripe(t, impl.Stripe{})
		requireRight(t, right, true)
		requireMendedStripe(t, withoutLost(right, []int{1, 3}, "?"), []int{1, 3}, right)
		requireMerged(t, longStripe(data[:1], 2), longStripe(data[1:], 2), right)
		requireChanged(t, right, 3, "abc", longStripe(append(slices.Clone(data[:3]), "abc"), 2))
	}
}
