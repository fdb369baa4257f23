package tests

import (
	"slices"
	"testing"

	"loop.example/g00294/impl"
)

// maxSecretBytes is how many random bytes a secret may be hidden by.
const maxSecretBytes = 8

// longPoly is independent of the program's arithmetic.
func longPoly(l []byte, x byte) byte {
	value := byte(0)
	for degree, coefficient := range l {
		value ^= longProduct(coefficient, longPower(x, degree))
	}
	return value
}

// sharesOn are the points of a polynomial at some places.
func sharesOn(l []byte, xs ...byte) []impl.Share {
	shares := make([]impl.Share, len(xs))
	for i, x := range xs {
		shares[i] = impl.Share{X: x, Y: longPoly(l, x)}
	}
	return shares
}

func longShares(secret byte, random []byte, n int) []impl.Share {
	return sharesOn(slices.Concat([]byte{secret}, random), steppedBytes(n, 1, 1)...)
}

// longValue is the value of the polynomial through some points as a sum over these points (Lagrange).
func longValue(l []impl.Share, x byte) byte {
	sum := byte(0)
	for i, share := range l {
		top, bottom := share.Y, byte(1)
		for j, other := range l {
			if i != j {
				top = longProduct(top, x^other.X)
				bottom = longProduct(bottom, share.X^other.X)
			}
		}
		sum ^= longProduct(top, longInverse(bottom))
	}
	return sum
}

// placeLists have one place, several or many, at the beginning, in the middle and at the end of all bytes.
func placeLists(count int) [][]byte {
	return [][]byte{
		steppedBytes(count, 1, 1), steppedBytes(count, 2, 3), steppedBytes(count, 7, 12), steppedBytes(count, byte(256-count), 1),
	}
}

// sharesAt are in general on no polynomial with few coefficients.
func sharesAt(xs []byte, seed int) []impl.Share {
	shares := make([]impl.Share, len(xs))
	for i, x := range xs {
		shares[i] = impl.Share{X: x, Y: mixedByte(seed, i, 7)}
	}
	return shares
}

// mixedShareLists are all of one number of shares.
func mixedShareLists(count int) [][]impl.Share {
	var lists [][]impl.Share
	for seed, xs := range placeLists(count) {
		lists = append(lists, sharesAt(xs, seed))
	}
	zeros := sharesAt(steppedBytes(count, 1, 1), 0)
	for i := range zeros {
		zeros[i].Y = 0
	}
	return append(lists, zeros)
}

// randomLists are several lists of so many bytes; bytes that are 0 make polynomials of a lower degree.
func randomLists(count int) [][]byte {
	last := mixedBytes(count, 5)
	first := mixedBytes(count, 6)
	if count > 0 {
		last[count-1], first[0] = 0, 0
	}
	return [][]byte{
		mixedBytes(count, 1), steppedBytes(count, 255, 255), make([]byte, count), last, first,
	}
}

func someSecrets() []byte { return []byte{0, 1, 7, 0x53, 128, 255} }

func pickedFrom(l []impl.Share, places []int) []impl.Share {
	picked := make([]impl.Share, len(places))
	for i, place := range places {
		picked[i] = l[place]
	}
	return picked
}

func withY(l []impl.Share, place int, change byte) []impl.Share {
	changed := slices.Clone(l)
	changed[place].Y ^= change
	return changed
}

func shared(t *testing.T, secret byte, random []byte, n int) []impl.Share {
	t.Helper()
	shares, ok := impl.ShareSecret(secret, random, n)
	if !ok || len(shares) != n {
		t.Fatalf("ShareSecret of %d with %v for %d: %v, %v", secret, random, n, shares, ok)
	}
	return shares
}

func requirePoly(t *testing.T, l []byte, x, want byte) {
	t.Helper()
	if got, ok := impl.PolyAt(l, x); !ok || got != want {
		t.Fatalf("PolyAt of %v at %d: %d, %v, want %d", l, x, got, ok, want)
	}
}

func requireInterpolated(t *testing.T, l []impl.Share, x, want byte) {
	t.Helper()
	if got, ok := impl.Interpolate(l, x); !ok || got != want {
		t.Fatalf("Interpolate of %v at %d: %d, %v, want %d", l, x, got, ok, want)
	}
}

func requireOpened(t *testing.T, l []impl.Share, k int, want byte) {
	t.Helper()
	if got, ok := impl.OpenSecret(l, k); !ok || got != want {
		t.Fatalf("OpenSecret of %v with %d: %d, %v, want %d", l, k, got, ok, want)
	}
}

func requireRandom(t *testing.T, l []impl.Share, secret byte, want []byte) {
	t.Helper()
	if got, ok := impl.RandomFor(l, secret); !ok || !slices.Equal(got, want) {
		t.Fatalf("RandomFor of %v and %d: %v, %v, want %v", l, secret, got, ok, want)
	}
}

func requireSum(t *testing.T, a, b, want []impl.Share) {
	t.Helper()
	if got, ok := impl.AddShares(a, b); !ok || !slices.Equal(got, want) {
		t.Fatalf("AddShares of %v and %v: %v, %v, want %v", a, b, got, ok, want)
	}
}

func requireRefreshed(t *testing.T, l []impl.Share, random []byte, want []impl.Share) {
	t.Helper()
	if got, ok := impl.RefreshShares(l, random); !ok || !slices.Equal(got, want) {
		t.Fatalf("RefreshShares of %v with %v: %v, %v, want %v", l, random, got, ok, want)
	}
}

func requireShared(t *testing.T, l []impl.Share, k int, want bool) {
	t.Helper()
	if got, ok := impl.IsShared(l, k); !ok || got != want {
		t.Fatalf("IsShared of %v with %d: %v, %v, want %v", l, k, got, ok, want)
	}
}

func TestShareExamples(t *testing.T) {
	shares := shared(t, 7, []byte{1, 2}, 4)
	// 3 times 3 is 5, and 4 times 4 is 16; the values are 7 + x + 2xx.
	want := []impl.Share{{X: 1, Y: 7 ^ 1 ^ 2}, {X: 2, Y: 7 ^ 2 ^ 8}, {X: 3, Y: 7 ^ 3 ^ 10}, {X: 4, Y: 7 ^ 4 ^ 32}}
	if !slices.Equal(shares, want) {
		t.Errorf("ShareSecret: %v, want %v", shares, want)
	}
	requireRandom(t, shares[:2], 7, []byte{1, 2})
	requireOpened(t, shares, 3, 7)
	requireOpened(t, shares[1:], 3, 7)
	requireShared(t, shares, 3, true)
	requireShared(t, shares, 2, false)
	// 5 + 2x is 7 at 1, and at 2 it is 1, whose double is added.
	requireRefreshed(t, shares[:2], []byte{5, 2}, []impl.Share{{X: 1, Y: want[0].Y ^ 7}, {X: 2, Y: want[1].Y ^ 2}})
	requireSum(t, shares[:2], []impl.Share{{X: 1, Y: 9}, {X: 2, Y: 9}}, []impl.Share{{X: 1, Y: 4 ^ 9}, {X: 2, Y: 13 ^ 9}})
}

func TestPolyAtByHand(t *testing.T) {
	for _, c := range []struct {
		l       []byte
		x, want byte
	}{
		{nil, 0, 0}, {nil, 5, 0}, {[]byte{}, 255, 0}, {[]byte{9}, 0, 9}, {[]byte{9}, 77, 9},
		{[]byte{9, 1}, 0, 9}, {[]byte{9, 1}, 1, 8}, {[]byte{9, 1}, 9, 0}, {[]byte{0, 2}, 0x80, 0x1B},
		{[]byte{1, 2, 3}, 1, 0}, {[]byte{1, 2, 3}, 2, 1 ^ 4 ^ 12}, {[]byte{0, 0, 0, 1}, 3, 15},
		{[]byte{0, 0x53}, 0xCA, 1}, {make([]byte, 20), 200, 0},
	} {
		requirePoly(t, c.l, c.x, c.want)
	}
}

func TestPolyAtEveryPlace(t *testing.T) {
	for count := range impl.MaxShares + 1 {
		for _, l := range randomLists(count) {
			for x := range 256 {
				requirePoly(t, l, byte(x), longPoly(l, byte(x)))
			}
		}
	}
}

// Each coefficient alone is a power of x.
func TestPolyAtSingleCoefficients(t *testing.T) {
	for degree := range impl.MaxShares {
		l := make([]byte, impl.MaxShares)
		l[degree] = 1
		for x := range 256 {
			requirePoly(t, l, byte(x), longPower(byte(x), degree))
			requirePoly(t, l[:degree+1], byte(x), longPower(byte(x), degree))
		}
	}
}

func TestSharesAreValues(t *testing.T) {
	for count := range maxSecretBytes + 1 {
		for _, random := range randomLists(count) {
			for _, secret := range someSecrets() {
				want := longShares(secret, random, impl.MaxShares)
				for n := 1; n <= impl.MaxShares; n++ {
					if got := shared(t, secret, random, n); !slices.Equal(got, want[:n]) {
						t.Fatalf("ShareSecret of %d with %v for %d: %v, want %v", secret, random, n, got, want[:n])
					}
				}
			}
		}
	}
}

// Without a random byte every share is the secret itself.
func TestSharesWithoutRandom(t *testing.T) {
	for secret := range 256 {
		for _, share := range shared(t, byte(secret), nil, impl.MaxShares) {
			if share.Y != byte(secret) {
				t.Errorf("a share of %d: %v", secret, share)
			}
			requireOpened(t, []impl.Share{share}, 1, byte(secret))
		}
	}
}

func TestAnySharesOpenTheSecret(t *testing.T) {
	for count := range maxSecretBytes + 1 {
		k := count + 1
		for i, random := range randomLists(count) {
			secret := someSecrets()[i]
			shares := shared(t, secret, random, 11)
			for _, places := range choices(len(shares), k) {
				requireOpened(t, pickedFrom(shares, places), k, secret)
			}
		}
	}
}

func TestAnyFewSharesOfAllOpenTheSecret(t *testing.T) {
	for count := range 3 {
		k := count + 1
		shares := shared(t, 0x9C, mixedBytes(count, 3), impl.MaxShares)
		for _, places := range choices(len(shares), k) {
			requireOpened(t, pickedFrom(shares, places), k, 0x9C)
		}
	}
	for count := 3; count <= maxSecretBytes; count++ {
		k := count + 1
		shares := shared(t, 0x9C, mixedBytes(count, 3), impl.MaxShares)
		for first := range impl.MaxShares - k + 1 {
			requireOpened(t, shares[first:], k, 0x9C)
			requireOpened(t, slices.Concat(shares[:k/2], shares[len(shares)-k+k/2:]), k, 0x9C)
		}
	}
}

func TestEverySecretIsOpened(t *testing.T) {
	for secret := range 256 {
		for count := range maxSecretBytes + 1 {
			shares := shared(t, byte(secret), mixedBytes(count, secret), count+3)
			for first := range 3 {
				requireOpened(t, shares[first:], count+1, byte(secret))
			}
		}
	}
}

// Shares beyond the necessary ones do no harm.
func TestMoreSharesOpenTheSecret(t *testing.T) {
	for count := range maxSecretBytes + 1 {
		for _, random := range randomLists(count) {
			shares := shared(t, 0x35, random, impl.MaxShares)
			for k := count + 1; k <= impl.MaxShares; k++ {
				requireOpened(t, shares, k, 0x35)
				requireOpened(t, shares[impl.MaxShares-k:], k, 0x35)
			}
		}
	}
}

// The first k shares decide, even if the others lie elsewhere.
func TestOnlyTheFirstSharesOpen(t *testing.T) {
	for n := 1; n <= impl.MaxShares; n++ {
		for _, l := range mixedShareLists(n) {
			for k := 1; k <= n; k++ {
				want := longValue(l[:k], 0)
				requireOpened(t, l, k, want)
				for place := k; place < n; place++ {
					requireOpened(t, withY(l, place, 0x77), k, want)
				}
			}
		}
	}
}

func requireSharesFrom(t *testing.T, l []impl.Share, secret byte, random []byte) {
	t.Helper()
	made := shared(t, secret, random, impl.MaxShares)
	for _, share := range l {
		if made[share.X-1] != share {
			t.Fatalf("the secret %d with %v has the share %v, not %v", secret, random, made[share.X-1], share)
		}
	}
}

func makesShares(t *testing.T, l []impl.Share, secret byte, random []byte) bool {
	t.Helper()
	made := shared(t, secret, random, impl.MaxShares)
	return !slices.ContainsFunc(l, func(share impl.Share) bool { return made[share.X-1] != share })
}

func TestEverySecretIsPossible(t *testing.T) {
	for count := range maxSecretBytes + 1 {
		for i, random := range randomLists(count) {
			made := shared(t, someSecrets()[i], random, impl.MaxShares)
			for _, few := range [][]impl.Share{made[:count], made[impl.MaxShares-count:], made[5 : 5+count]} {
				requireRandom(t, few, someSecrets()[i], random)
				for secret := range 256 {
					found, ok := impl.RandomFor(few, byte(secret))
					if !ok || len(found) != count {
						t.Fatalf("RandomFor of %v and %d: %v, %v", few, secret, found, ok)
					}
					requireSharesFrom(t, few, byte(secret), found)
				}
			}
		}
	}
}

func TestAnyFewSharesFitEverySecret(t *testing.T) {
	for count := 1; count <= maxSecretBytes; count++ {
		made := shared(t, 0xD1, mixedBytes(count, 9), 9)
		for _, places := range choices(len(made), count) {
			few := pickedFrom(made, places)
			for _, secret := range someSecrets() {
				found, ok := impl.RandomFor(few, secret)
				if !ok || len(found) != count {
					t.Fatalf("RandomFor of %v and %d: %v, %v", few, secret, found, ok)
				}
				requireSharesFrom(t, few, secret, found)
			}
		}
	}
}

// The shares may lie at every place and have every value.
func TestRandomForOfMixedShares(t *testing.T) {
	for count := range maxSecretBytes + 1 {
		for _, l := range mixedShareLists(count) {
			for secret := range 256 {
				random, ok := impl.RandomFor(l, byte(secret))
				if !ok || len(random) != count {
					t.Fatalf("RandomFor of %v and %d: %v, %v", l, secret, random, ok)
				}
				whole := slices.Concat([]byte{byte(secret)}, random)
				for _, share := range l {
					if longPoly(whole, share.X) != share.Y {
						t.Fatalf("RandomFor of %v and %d: %v", l, secret, random)
					}
				}
			}
		}
	}
}

func TestNoOtherByteMakesAShare(t *testing.T) {
	for _, x := range []byte{1, 2, 19, 20} {
		for _, secret := range someSecrets() {
			few := []impl.Share{{X: x, Y: 0x6E}}
			fitting := 0
			for random := range 256 {
				if makesShares(t, few, secret, []byte{byte(random)}) {
					fitting++
					requireRandom(t, few, secret, []byte{byte(random)})
				}
			}
			if fitting != 1 {
				t.Errorf("%d bytes make the share %v of %d", fitting, few, secret)
			}
		}
	}
}

func TestNoOtherTwoBytesMakeShares(t *testing.T) {
	few := []impl.Share{{X: 3, Y: 0x6E}, {X: 17, Y: 0x08}}
	for _, secret := range []byte{0, 0xB4} {
		fitting := 0
		for first := range 256 {
			for second := range 256 {
				random := []byte{byte(first), byte(second)}
				if makesShares(t, few, secret, random) {
					fitting++
					requireRandom(t, few, secret, random)
				}
			}
		}
		if fitting != 1 {
			t.Errorf("%d pairs of bytes make the shares %v of %d", fitting, few, secret)
		}
	}
}

// The shares are linear in the random bytes, so that independent rows of powers leave one choice.
func TestNoOtherBytesMakeShares(t *testing.T) {
	for count := 1; count <= maxSecretBytes; count++ {
		for _, places := range choices(10, count) {
			var rows span
			for _, place := range places {
				row := make([]byte, count)
				for i := range row {
					row[i] = longPower(byte(place+1), i+1)
				}
				if !rows.add(row) {
					t.Fatalf("the shares at %v leave a choice", places)
				}
			}
		}
	}
	for count := 1; count <= maxSecretBytes; count++ {
		random := mixedBytes(count, 13)
		few := shared(t, 0x2A, random, count)
		for place := range random {
			for change := 1; change < 256; change++ {
				other := slices.Clone(random)
				other[place] ^= byte(change)
				if makesShares(t, few, 0x2A, other) {
					t.Errorf("the bytes %v make the shares of %v too", other, random)
				}
			}
		}
	}
}

func TestInterpolateByHand(t *testing.T) {
	for _, c := range []struct {
		l       []impl.Share
		x, want byte
	}{
		{[]impl.Share{{X: 9, Y: 5}}, 0, 5}, {[]impl.Share{{X: 9, Y: 5}}, 9, 5}, {[]impl.Share{{X: 9, Y: 5}}, 255, 5},
		// The identity, and 1 more than it.
		{[]impl.Share{{X: 1, Y: 1}, {X: 2, Y: 2}}, 0, 0}, {[]impl.Share{{X: 1, Y: 1}, {X: 2, Y: 2}}, 77, 77},
		{[]impl.Share{{X: 4, Y: 5}, {X: 8, Y: 9}}, 0, 1}, {[]impl.Share{{X: 4, Y: 5}, {X: 8, Y: 9}}, 16, 17},
		// Squares: 3 times 3 is 5.
		{[]impl.Share{{X: 1, Y: 1}, {X: 2, Y: 4}, {X: 3, Y: 5}}, 4, 16}, {[]impl.Share{{X: 1, Y: 1}, {X: 2, Y: 4}, {X: 3, Y: 5}}, 0, 0},
		{[]impl.Share{{X: 1, Y: 0}, {X: 255, Y: 0}}, 3, 0},
	} {
		requireInterpolated(t, c.l, c.x, c.want)
	}
}

func TestInterpolateEveryPlace(t *testing.T) {
	for n := 1; n <= impl.MaxShares; n++ {
		for _, l := range mixedShareLists(n) {
			for x := 0; x < 256; x += 3 {
				requireInterpolated(t, l, byte(x), longValue(l, byte(x)))
			}
			for _, share := range l {
				requireInterpolated(t, l, share.X, share.Y)
			}
		}
	}
}

// The shares of a polynomial give its value at every place, if there are as many of them as coefficients.
func TestInterpolateIsThePolynomial(t *testing.T) {
	for count := 1; count <= impl.MaxShares; count++ {
		for _, l := range randomLists(count) {
			for n := count; n <= impl.MaxShares; n++ {
				shares := sharesOn(l, steppedBytes(n, 3, 11)...)
				for _, x := range []byte{0, 1, 3, 14, 100, 255} {
					requireInterpolated(t, shares, x, longPoly(l, x))
				}
			}
		}
	}
}

func TestSumOfSharesOpensToTheSum(t *testing.T) {
	for first := range maxSecretBytes + 1 {
		for second := range maxSecretBytes + 1 {
			k := max(first, second) + 1
			for i, secret := range someSecrets() {
				other := someSecrets()[len(someSecrets())-1-i]
				a := shared(t, secret, mixedBytes(first, i), 12)
				b := shared(t, other, mixedBytes(second, i+20), 12)
				sum, ok := impl.AddShares(a, b)
				if !ok || len(sum) != 12 {
					t.Fatalf("AddShares of %v and %v: %v, %v", a, b, sum, ok)
				}
				requireOpened(t, sum, k, secret^other)
				requireOpened(t, sum[12-k:], k, secret^other)
				requireShared(t, sum, k, true)
			}
		}
	}
}

func TestAddSharesAddsValues(t *testing.T) {
	for n := range impl.MaxShares + 1 {
		for i, xs := range placeLists(n) {
			a, b := sharesAt(xs, i), sharesAt(xs, i+50)
			want := slices.Clone(a)
			zeros := slices.Clone(a)
			for place := range want {
				want[place].Y ^= b[place].Y
				zeros[place].Y = 0
			}
			requireSum(t, a, b, want)
			requireSum(t, b, a, want)
			requireSum(t, a, want, b)
			requireSum(t, a, a, zeros)
			requireSum(t, a, zeros, a)
		}
	}
}

func TestRefreshedSharesOpenTheSecret(t *testing.T) {
	for count := range maxSecretBytes + 1 {
		for more := range maxSecretBytes + 1 {
			k := max(count, more) + 1
			for i, random := range randomLists(more) {
				secret := someSecrets()[i]
				shares := shared(t, secret, mixedBytes(count, i), 12)
				fresh, ok := impl.RefreshShares(shares, random)
				if !ok || len(fresh) != 12 {
					t.Fatalf("RefreshShares of %v with %v: %v, %v", shares, random, fresh, ok)
				}
				requireOpened(t, fresh, k, secret)
				requireOpened(t, fresh[12-k:], k, secret)
				requireShared(t, fresh, k, true)
			}
		}
	}
}

// The shares of 0 with the same random bytes are what is added.
func TestRefreshSharesAddsValues(t *testing.T) {
	for n := range impl.MaxShares + 1 {
		for _, l := range mixedShareLists(n) {
			for count := range maxSecretBytes + 1 {
				for _, random := range randomLists(count) {
					want := slices.Clone(l)
					for i, share := range want {
						want[i].Y ^= longProduct(share.X, longPoly(random, share.X))
					}
					requireRefreshed(t, l, random, want)
				}
			}
		}
	}
	for count := range maxSecretBytes + 1 {
		shares := shared(t, 0x61, mixedBytes(3, 1), impl.MaxShares)
		sum, _ := impl.AddShares(shares, shared(t, 0, mixedBytes(count, 2), impl.MaxShares))
		requireRefreshed(t, shares, mixedBytes(count, 2), sum)
		requireRefreshed(t, sum, mixedBytes(count, 2), shares)
	}
}

func TestSharesOfAPolynomialAreShared(t *testing.T) {
	for count := 1; count <= impl.MaxShares; count++ {
		l := mixedBytes(count, 4)
		l[count-1] |= 1
		for _, xs := range placeLists(impl.MaxShares) {
			shares := sharesOn(l, xs...)
			for n := count; n <= impl.MaxShares; n++ {
				for k := 1; k <= impl.MaxShares; k++ {
					requireShared(t, shares[:n], k, k >= count)
				}
			}
		}
	}
	for n := range impl.MaxShares + 1 {
		for k := 1; k <= impl.MaxShares; k++ {
			requireShared(t, sharesOn(nil, steppedBytes(n, 1, 1)...), k, true)
		}
	}
}

func TestMadeSharesAreShared(t *testing.T) {
	for count := range maxSecretBytes + 1 {
		for i, random := range randomLists(count) {
			shares := shared(t, someSecrets()[i], random, impl.MaxShares)
			for k := count + 1; k <= impl.MaxShares; k++ {
				requireShared(t, shares, k, true)
			}
		}
	}
}

func TestOneChangedShareIsNoticed(t *testing.T) {
	for k := 1; k < impl.MaxShares; k++ {
		l := mixedBytes(k, 8)
		for _, n := range []int{k + 1, (k + 1 + impl.MaxShares) / 2, impl.MaxShares} {
			shares := sharesOn(l, steppedBytes(n, 1, 12)...)
			requireShared(t, shares, k, true)
			for place := range shares {
				for _, change := range []byte{1, 2, 0x80, 0xFF} {
					requireShared(t, withY(shares, place, change), k, false)
				}
			}
		}
	}
	for change := 1; change < 256; change++ {
		shares := shared(t, 7, []byte{1, 2}, 4)
		for place := range shares {
			requireShared(t, withY(shares, place, byte(change)), 3, false)
			requireShared(t, withY(shares, place, byte(change)), 4, true)
			requireShared(t, withY(shares[:3], place%3, byte(change)), 3, true)
		}
	}
}

// longShared compares the other shares with what the first k say of them.
func longShared(l []impl.Share, k int) bool {
	for i := k; i < len(l); i++ {
		if longValue(l[:k], l[i].X) != l[i].Y {
			return false
		}
	}
	return true
}

func TestIsSharedOfMixedShares(t *testing.T) {
	for n := range impl.MaxShares + 1 {
		for i, l := range mixedShareLists(n) {
			for k := 1; k <= impl.MaxShares; k++ {
				requireShared(t, l, k, longShared(l, k))
				if k+1 < n {
					// Two changes of a list that lies on a polynomial.
					wrong := withY(withY(sharesOn(mixedBytes(k, i), steppedBytes(n, 1, 1)...), 0, 3), n-1, 5)
					requireShared(t, wrong, k, longShared(wrong, k))
				}
			}
		}
	}
}

// All values of three shares: the third lies on the line of the others, or it does not.
func TestIsSharedFollowsTheLine(t *testing.T) {
	for first := 0; first < 256; first += 51 {
		for second := 0; second < 256; second += 17 {
			line := []impl.Share{{X: 2, Y: byte(first)}, {X: 9, Y: byte(second)}}
			third := longValue(line, 200)
			for y := range 256 {
				l := append(slices.Clone(line), impl.Share{X: 200, Y: byte(y)})
				requireShared(t, l, 2, byte(y) == third)
				requireShared(t, l, 1, first == second && second == y)
			}
		}
	}
}
