package tests

import (
	"slices"
	"testing"

	"loop.example/g00294/impl"
)

func requireNoPoly(t *testing.T, l []byte, x byte) {
	t.Helper()
	if got, ok := impl.PolyAt(l, x); got != 0 || ok {
		t.Errorf("PolyAt of %v at %d: %d, %v", l, x, got, ok)
	}
}

func requireNotShared(t *testing.T, secret byte, random []byte, n int) {
	t.Helper()
	if got, ok := impl.ShareSecret(secret, random, n); len(got) != 0 || ok {
		t.Errorf("ShareSecret of %d with %v for %d: %v, %v", secret, random, n, got, ok)
	}
}

func requireNotInterpolated(t *testing.T, l []impl.Share, x byte) {
	t.Helper()
	if got, ok := impl.Interpolate(l, x); got != 0 || ok {
		t.Errorf("Interpolate of %v at %d: %d, %v", l, x, got, ok)
	}
}

func requireNotOpened(t *testing.T, l []impl.Share, k int) {
	t.Helper()
	if got, ok := impl.OpenSecret(l, k); got != 0 || ok {
		t.Errorf("OpenSecret of %v with %d: %d, %v", l, k, got, ok)
	}
}

func requireNoRandom(t *testing.T, l []impl.Share, secret byte) {
	t.Helper()
	if got, ok := impl.RandomFor(l, secret); len(got) != 0 || ok {
		t.Errorf("RandomFor of %v and %d: %v, %v", l, secret, got, ok)
	}
}

func requireNoSum(t *testing.T, a, b []impl.Share) {
	t.Helper()
	if got, ok := impl.AddShares(a, b); len(got) != 0 || ok {
		t.Errorf("AddShares of %v and %v: %v, %v", a, b, got, ok)
	}
}

func requireNotRefreshed(t *testing.T, l []impl.Share, random []byte) {
	t.Helper()
	if got, ok := impl.RefreshShares(l, random); len(got) != 0 || ok {
		t.Errorf("RefreshShares of %v with %v: %v, %v", l, random, got, ok)
	}
}

func requireNoneShared(t *testing.T, l []impl.Share, k int) {
	t.Helper()
	if got, ok := impl.IsShared(l, k); got || ok {
		t.Errorf("IsShared of %v with %d: %v, %v", l, k, got, ok)
	}
}

// requireBadShares checks that no function takes these shares.
func requireBadShares(t *testing.T, l []impl.Share) {
	t.Helper()
	for _, x := range []byte{0, 1, 2, 255} {
		requireNotInterpolated(t, l, x)
		requireNoRandom(t, l, x)
	}
	for k := -1; k <= impl.MaxShares+2; k++ {
		requireNotOpened(t, l, k)
		requireNoneShared(t, l, k)
	}
	good := sharesAt(steppedBytes(min(len(l), impl.MaxShares), 1, 1), 1)
	for _, other := range [][]impl.Share{nil, good, slices.Clone(l), l} {
		requireNoSum(t, l, other)
		requireNoSum(t, other, l)
	}
	for _, random := range [][]byte{nil, {}, {0}, {1, 2}, mixedBytes(8, 1), mixedBytes(9, 1)} {
		requireNotRefreshed(t, l, random)
	}
}

// requireGoodShares checks that every function takes these shares, as far as their number allows.
func requireGoodShares(t *testing.T, l []impl.Share) {
	t.Helper()
	for k := 1; k <= len(l); k++ {
		requireOpened(t, l, k, longValue(l[:k], 0))
	}
	if len(l) > 0 {
		requireInterpolated(t, l, 0, longValue(l, 0))
	}
	if random, ok := impl.RandomFor(l, 3); ok != (len(l) <= maxSecretBytes) || ok && len(random) != len(l) {
		t.Errorf("RandomFor of %v: %v, %v", l, random, ok)
	}
	zeros := slices.Clone(l)
	for i := range zeros {
		zeros[i].Y = 0
	}
	requireSum(t, l, l, zeros)
	requireRefreshed(t, l, nil, l)
	requireShared(t, l, impl.MaxShares, true)
}

func TestPolyAtCounts(t *testing.T) {
	for _, x := range []byte{0, 1, 2, 255} {
		for count := range 24 {
			l := mixedBytes(count, 2)
			if count > 20 {
				requireNoPoly(t, l, x)
			} else {
				requirePoly(t, l, x, longPoly(l, x))
			}
		}
		requirePoly(t, nil, x, 0)
		requirePoly(t, []byte{}, x, 0)
		// Zeros count as coefficients too.
		requirePoly(t, make([]byte, 20), x, 0)
		requireNoPoly(t, make([]byte, 21), x)
		requireNoPoly(t, append([]byte{9}, make([]byte, 20)...), x)
		requireNoPoly(t, mixedBytes(256, 1), x)
		requireNoPoly(t, mixedBytes(10000, 1), x)
	}
}

func TestShareSecretCounts(t *testing.T) {
	numbers := append(unusualInts(), -2, 0, 1, 2, 3, 9, 19, 20, 21, 22, 40, 255)
	for _, n := range numbers {
		for count := range 12 {
			random := mixedBytes(count, 4)
			if n < 1 || n > 20 || count > 8 {
				requireNotShared(t, 0x41, random, n)
			} else if got := shared(t, 0x41, random, n); !slices.Equal(got, longShares(0x41, random, n)) {
				t.Errorf("ShareSecret with %v for %d: %v", random, n, got)
			}
		}
		if n < 1 || n > 20 {
			requireNotShared(t, 0, nil, n)
			requireNotShared(t, 0, []byte{}, n)
		}
	}
	for n := 1; n <= impl.MaxShares; n++ {
		requireNotShared(t, 5, make([]byte, 9), n)
		requireNotShared(t, 5, make([]byte, 1000), n)
	}
}

// There may be fewer shares than random bytes; they do not open the secret then.
func TestFewerSharesThanNecessary(t *testing.T) {
	for count := 1; count <= maxSecretBytes; count++ {
		for n := 1; n <= count; n++ {
			random := mixedBytes(count, 2)
			if got := shared(t, 0x71, random, n); !slices.Equal(got, longShares(0x71, random, n)) {
				t.Errorf("ShareSecret with %v for %d: %v", random, n, got)
			}
		}
	}
}

func TestInvalidShares(t *testing.T) {
	for n := 1; n <= impl.MaxShares; n++ {
		right := sharesAt(steppedBytes(n, 2, 12), n)
		requireGoodShares(t, right)
		for place := range right {
			changed := slices.Clone(right)
			changed[place].X = 0
			requireBadShares(t, changed)
			if place == 0 {
				continue
			}
			for _, x := range []byte{right[place-1].X, right[place-1].X - 1, 1} {
				changed[place].X = x
				requireBadShares(t, changed)
			}
			changed[place-1], changed[place] = right[place], right[place-1]
			requireBadShares(t, changed)
		}
	}
	requireBadShares(t, []impl.Share{{}})
	requireBadShares(t, []impl.Share{{X: 0, Y: 7}})
	requireBadShares(t, make([]impl.Share, 20))
	requireBadShares(t, []impl.Share{{X: 1, Y: 2}, {X: 1, Y: 2}})
	requireBadShares(t, []impl.Share{{X: 255, Y: 2}, {X: 1, Y: 2}})
	requireBadShares(t, []impl.Share{{X: 255, Y: 2}, {X: 0, Y: 2}})
	requireBadShares(t, []impl.Share{{X: 2, Y: 1}, {X: 1, Y: 2}, {X: 3, Y: 3}})
}

func TestNumbersOfShares(t *testing.T) {
	for n := range 26 {
		lists := [][]byte{steppedBytes(n, 1, 1), steppedBytes(n, 3, 10), steppedBytes(n, byte(256-n), 1)}
		for seed, xs := range lists {
			if l := sharesAt(xs, seed); n > 20 {
				requireBadShares(t, l)
			} else {
				requireGoodShares(t, l)
			}
		}
	}
	requireBadShares(t, sharesAt(steppedBytes(255, 1, 1), 1))
	requireBadShares(t, sharesAt(steppedBytes(1000, 1, 1), 1))
	// On a polynomial with few coefficients, too many shares are too many all the same.
	requireBadShares(t, sharesOn([]byte{5}, steppedBytes(21, 1, 1)...))
}

func TestNoShares(t *testing.T) {
	for _, none := range [][]impl.Share{nil, {}, make([]impl.Share, 0, 5)} {
		for x := range 256 {
			requireNotInterpolated(t, none, byte(x))
			requireRandom(t, none, byte(x), nil)
		}
		for _, k := range append(unusualInts(), 0, 1, 2, 19, 20, 21) {
			requireNotOpened(t, none, k)
			if k >= 1 && k <= 20 {
				requireShared(t, none, k, true)
			} else {
				requireNoneShared(t, none, k)
			}
		}
		requireSum(t, none, nil, nil)
		requireSum(t, nil, none, nil)
		requireNoSum(t, none, []impl.Share{{X: 1, Y: 0}})
		requireNoSum(t, []impl.Share{{X: 1, Y: 0}}, none)
		for count := range maxSecretBytes + 1 {
			requireRefreshed(t, none, mixedBytes(count, 1), nil)
		}
		requireNotRefreshed(t, none, make([]byte, 9))
	}
}

func TestOpenSecretNumbers(t *testing.T) {
	for n := range impl.MaxShares + 1 {
		for _, l := range mixedShareLists(n) {
			for _, k := range append(unusualInts(), 0) {
				requireNotOpened(t, l, k)
			}
			for k := 1; k <= 23; k++ {
				if k > n {
					requireNotOpened(t, l, k)
				} else {
					requireOpened(t, l, k, longValue(l[:k], 0))
				}
			}
		}
	}
}

// A share behind the first k is looked at too.
func TestOpenSecretOfListsWithABadEnd(t *testing.T) {
	for n := 2; n <= impl.MaxShares; n++ {
		l := sharesAt(steppedBytes(n, 1, 1), 3)
		l[n-1].X = 1
		for k := 1; k <= n; k++ {
			requireNotOpened(t, l, k)
			requireNoneShared(t, l, k)
		}
	}
}

func TestIsSharedNumbers(t *testing.T) {
	for n := range impl.MaxShares + 1 {
		l := sharesOn([]byte{3, 9}, steppedBytes(n, 1, 1)...)
		for _, k := range append(unusualInts(), 0, 21, 22, 40, 255) {
			requireNoneShared(t, l, k)
		}
		for k := 1; k <= 20; k++ {
			requireShared(t, l, k, k >= 2 || n <= 1)
		}
	}
}

func TestRandomForNumbers(t *testing.T) {
	for n := range impl.MaxShares + 1 {
		for _, l := range mixedShareLists(n) {
			for _, secret := range someSecrets() {
				if n > 8 {
					requireNoRandom(t, l, secret)
				} else if random, ok := impl.RandomFor(l, secret); !ok || len(random) != n {
					t.Errorf("RandomFor of %v and %d: %v, %v", l, secret, random, ok)
				}
			}
		}
	}
	// Nine shares of a polynomial with few coefficients are too many all the same.
	requireNoRandom(t, longShares(7, []byte{1, 2}, 9), 7)
	requireRandom(t, longShares(7, []byte{1, 2}, 8), 7, []byte{1, 2, 0, 0, 0, 0, 0, 0})
}

func TestAddSharesOfDifferentPlaces(t *testing.T) {
	for n := 1; n <= impl.MaxShares; n++ {
		a := sharesAt(steppedBytes(n, 2, 12), 1)
		b := sharesAt(steppedBytes(n, 2, 12), 2)
		for place := range b {
			for _, step := range []int{-1, 1} {
				other := slices.Clone(b)
				other[place].X = byte(int(other[place].X) + step)
				requireNoSum(t, a, other)
				requireNoSum(t, other, a)
			}
			short := slices.Delete(slices.Clone(b), place, place+1)
			requireNoSum(t, a, short)
			requireNoSum(t, short, a)
		}
		for shorter := range n {
			requireNoSum(t, a, b[:shorter])
			requireNoSum(t, b[:shorter], a)
			requireNoSum(t, a, b[n-shorter:])
		}
	}
	requireNoSum(t, sharesAt(steppedBytes(20, 1, 1), 1), sharesAt(steppedBytes(21, 1, 1), 1))
	requireNoSum(t, sharesAt(steppedBytes(21, 1, 1), 1), sharesAt(steppedBytes(20, 1, 1), 1))
	requireNoSum(t, sharesAt(steppedBytes(21, 1, 1), 1), sharesAt(steppedBytes(21, 1, 1), 1))
}

func TestRefreshSharesNumbers(t *testing.T) {
	for n := range impl.MaxShares + 1 {
		for _, l := range mixedShareLists(n) {
			requireRefreshed(t, l, nil, l)
			requireRefreshed(t, l, []byte{}, l)
			requireRefreshed(t, l, make([]byte, 8), l)
			for _, count := range []int{9, 10, 19, 20, 21, 1000} {
				requireNotRefreshed(t, l, make([]byte, count))
				requireNotRefreshed(t, l, mixedBytes(count, 1))
			}
			if random := mixedBytes(8, 2); n > 0 {
				got, ok := impl.RefreshShares(l, random)
				if !ok || len(got) != n || got[0].X != l[0].X || got[0].Y != l[0].Y^longProduct(l[0].X, longPoly(random, l[0].X)) {
					t.Errorf("RefreshShares of %v with %v: %v, %v", l, random, got, ok)
				}
			}
		}
	}
}

func testShareLists() [][]impl.Share {
	return [][]impl.Share{
		nil, {}, {{}}, {{X: 1, Y: 5}}, {{X: 255, Y: 0}}, {{X: 2, Y: 5}, {X: 1, Y: 6}}, {{X: 3, Y: 5}, {X: 3, Y: 5}},
		longShares(7, []byte{1, 2}, 4), longShares(9, mixedBytes(8, 1), 8), longShares(9, mixedBytes(8, 1), 9),
		longShares(9, mixedBytes(8, 1), 20), longShares(9, mixedBytes(8, 1), 21), sharesAt(steppedBytes(4, 1, 1), 2),
		sharesAt(steppedBytes(20, 236, 1), 2),
	}
}

func testRandoms() [][]byte {
	return [][]byte{nil, {}, {0}, {1}, {1, 2}, mixedBytes(8, 1), mixedBytes(9, 1), mixedBytes(20, 1), mixedBytes(21, 1)}
}

// requireKeptList checks a list together with what stands behind it.
func requireKeptList[E comparable](t *testing.T, memory []E, call func()) {
	t.Helper()
	before := slices.Clone(memory)
	call()
	if !slices.Equal(memory, before) {
		t.Errorf("the list %v became %v", before, memory)
	}
}

func TestShareArgumentsAreNotModified(t *testing.T) {
	for _, first := range testShareLists() {
		l, memory := roomy(first, impl.Share{X: 77, Y: 78})
		requireKeptList(t, memory, func() {
			for n := -1; n <= 22; n++ {
				impl.Interpolate(l, byte(n))
				impl.RandomFor(l, byte(n))
				impl.OpenSecret(l, n)
				impl.IsShared(l, n)
			}
			impl.AddShares(l, l)
		})
		for _, second := range testShareLists() {
			other, otherMemory := roomy(second, impl.Share{X: 88, Y: 89})
			requireKeptList(t, memory, func() {
				requireKeptList(t, otherMemory, func() { impl.AddShares(l, other) })
			})
		}
		for _, bytes := range testRandoms() {
			random, randomMemory := roomy(bytes, spare)
			requireKeptList(t, memory, func() {
				requireKeptList(t, randomMemory, func() { impl.RefreshShares(l, random) })
			})
		}
	}
}

func TestRandomBytesAreNotModified(t *testing.T) {
	for _, bytes := range testRandoms() {
		random, memory := roomy(bytes, spare)
		requireKeptList(t, memory, func() {
			for n := -1; n <= 22; n++ {
				impl.ShareSecret(7, random, n)
				impl.PolyAt(random, byte(n))
			}
		})
	}
}

// What stands behind a list would make it valid, or invalid, or change the result, if it were read.
func TestSpareSharesAreNotRead(t *testing.T) {
	for count := range maxSecretBytes + 1 {
		random, _ := roomy(mixedBytes(count, 1), spare)
		if got := shared(t, 7, random, 20); !slices.Equal(got, longShares(7, mixedBytes(count, 1), 20)) {
			t.Errorf("ShareSecret with %v: %v", random, got)
		}
		requirePoly(t, random, 9, longPoly(mixedBytes(count, 1), 9))
	}
	for n := range impl.MaxShares + 1 {
		for _, behind := range []impl.Share{{X: 0, Y: 1}, {X: 1, Y: 1}, {X: 255, Y: 1}} {
			l, _ := roomy(sharesAt(steppedBytes(n, 1, 1), 4), behind)
			requireGoodShares(t, l)
			requireNotOpened(t, l, n+1)
			requireNoSum(t, l, append(slices.Clone(l), behind))
		}
	}
	all := longShares(7, []byte{1, 2}, 20)
	requireNotInterpolated(t, all[:0], 1)
	requireShared(t, withY(all, 19, 1)[:19], 3, true)
	requireShared(t, withY(all, 19, 1), 3, false)
}

// Two arguments may be one list, or lie behind or over each other.
func TestShareListsThatShareMemory(t *testing.T) {
	memory := append(sharesAt(steppedBytes(5, 1, 1), 1), sharesAt(steppedBytes(5, 1, 1), 2)...)
	want := make([]impl.Share, 5)
	for i := range want {
		want[i] = impl.Share{X: memory[i].X, Y: memory[i].Y ^ memory[i+5].Y}
	}
	requireKeptList(t, memory, func() {
		requireSum(t, memory[:5], memory[5:], want)
		requireSum(t, memory[5:], memory[:5], want)
		requireNoSum(t, memory[:5], memory[1:5])
		requireNoSum(t, memory, memory[:5])
	})
	requireGoodShares(t, memory[:5])
	requireGoodShares(t, memory[5:])
	requireBadShares(t, memory)
}

func TestShareResultsShareNoMemory(t *testing.T) {
	for count := range maxSecretBytes + 1 {
		random, randomMemory := roomy(mixedBytes(count, 1), spare)
		requireOwnList(t, func() ([]impl.Share, bool) { return impl.ShareSecret(7, random, 12) }, randomMemory)
		for n := range impl.MaxShares + 1 {
			l, memory := roomy(sharesAt(steppedBytes(n, 1, 1), 4), impl.Share{X: 77, Y: 78})
			other, otherMemory := roomy(sharesAt(steppedBytes(n, 1, 1), 5), impl.Share{X: 77, Y: 78})
			requireOwnList(t, func() ([]impl.Share, bool) { return impl.RefreshShares(l, random) }, memory)
			requireOwnList(t, func() ([]impl.Share, bool) { return impl.RefreshShares(l, random) }, randomMemory)
			requireOwnList(t, func() ([]impl.Share, bool) { return impl.AddShares(l, other) }, memory)
			requireOwnList(t, func() ([]impl.Share, bool) { return impl.AddShares(l, other) }, otherMemory)
			if n <= maxSecretBytes {
				requireOwnList(t, func() ([]byte, bool) { return impl.RandomFor(l, 3) }, memory)
			}
		}
	}
}

func TestShareCallsKeepNoState(t *testing.T) {
	shares := longShares(7, []byte{1, 2}, 6)
	for range 2 {
		requireNoPoly(t, make([]byte, 21), 1)
		requireNotShared(t, 7, make([]byte, 9), 3)
		requireBadShares(t, []impl.Share{{X: 2, Y: 1}, {X: 1, Y: 1}})
		requireNotOpened(t, shares, 7)
		requireNoneShared(t, shares, 0)
		requirePoly(t, []byte{7, 1, 2}, 1, 4)
		requireOpened(t, shares, 3, 7)
		requireOpened(t, shares[2:], 3, 7)
		requireRandom(t, shares[:2], 7, []byte{1, 2})
		requireShared(t, shares, 3, true)
		requireShared(t, shares, 2, false)
		if got := shared(t, 7, []byte{1, 2}, 6); !slices.Equal(got, shares) {
			t.Errorf("ShareSecret: %v", got)
		}
	}
}
