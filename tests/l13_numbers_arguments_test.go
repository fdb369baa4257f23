package tests

import (
	"math"
	"math/big"
	"slices"
	"strings"
	"testing"

	"loop.example/g00294/impl"
)

func requireNotNumbered(t *testing.T, by numberCode, n int) {
	t.Helper()
	if got, ok := by.of(n); got != "" || ok {
		t.Errorf("%s code of %d: %.80q, %v", by.name, n, got, ok)
	}
}

func requireNotTaken(t *testing.T, by numberCode, text string) {
	t.Helper()
	if n, length, ok := by.take(text); n != 0 || length != 0 || ok {
		t.Errorf("%s number of %.80q: %d, %d, %v", by.name, text, n, length, ok)
	}
}

func requireNoSums(t *testing.T, n int) {
	t.Helper()
	if got, ok := impl.SumsOf(n); len(got) != 0 || ok {
		t.Errorf("SumsOf %d: %v, %v", n, got, ok)
	}
}

func requireNotEncodedList(t *testing.T, list []int, kind int) {
	t.Helper()
	if got, ok := impl.EncodeList(list, kind); got != "" || ok {
		t.Errorf("EncodeList of %v by kind %d: %.80q, %v", list, kind, got, ok)
	}
}

func requireNoList(t *testing.T, text string, kind int) {
	t.Helper()
	if got, ok := impl.DecodeList(text, kind); len(got) != 0 || ok {
		t.Errorf("DecodeList of %.80q by kind %d: %v, %v", text, kind, got, ok)
	}
}

// badNumbers are outside, also such that would be valid with fewer bits.
func badNumbers() []int {
	list := append(unusualInts(), -impl.MaxNumber, -9, -2, -1, 0, impl.MaxNumber+1, impl.MaxNumber+2, 1<<20-1, 1<<20, 1346269, 1<<31, 1<<32+9, 1<<40, 1<<62, 1<<62+9)
	return slices.DeleteFunc(list, func(n int) bool { return n >= 1 && n <= impl.MaxNumber })
}

func badParameters() []int {
	return append(unusualInts(), -10, -3, -2, -1, 11, 12, 13, 20, 31, 32, 62, 63, 64, 65, 1<<32+2)
}

func badKinds() []int {
	return append(unusualInts(), -4, -3, -2, -1, 0, 5, 6, 7, 1<<32+4)
}

func TestNumbersOutside(t *testing.T) {
	for _, n := range badNumbers() {
		for _, by := range allCodes() {
			requireNotNumbered(t, by, n)
		}
		requireNoSums(t, n)
		for kind := 1; kind <= 4; kind++ {
			requireNotEncodedList(t, []int{n}, kind)
		}
	}
	for _, n := range []int{1, 2, 999999, impl.MaxNumber} {
		for _, by := range append(shortCodes(), riceCode(9), riceCode(10)) {
			code, _ := by.long(n)
			requireCode(t, by, n, code)
			requireTaken(t, by, code, n, len(code))
		}
	}
	requireSumsTo(t, 1, []int{1})
	requireSumsTo(t, 2, []int{2})
}

func TestParametersOutside(t *testing.T) {
	for _, k := range badParameters() {
		for _, n := range append(badNumbers(), 1, 2, 9, 1000, impl.MaxNumber) {
			if got, ok := impl.RiceOf(n, k); got != "" || ok {
				t.Errorf("RiceOf %d with %d: %q, %v", n, k, got, ok)
			}
		}
		for _, text := range []string{"", "0", "00", "1", "11000", strings.Repeat("0", 70), strings.Repeat("10", 1500)} {
			if n, length, ok := impl.TakeRice(text, k); n != 0 || length != 0 || ok {
				t.Errorf("TakeRice of %q with %d: %d, %d, %v", text, k, n, length, ok)
			}
		}
	}
	for k := range 11 {
		requireCode(t, riceCode(k), 1, strings.Repeat("0", k+1))
		requireTaken(t, riceCode(k), strings.Repeat("0", k+1), 1, k+1)
		requireCode(t, riceCode(k), 1+1<<k, "10"+strings.Repeat("0", k))
		requireCode(t, riceCode(k), 1<<k, "0"+strings.Repeat("1", k))
	}
}

// A Rice code has at most 2000 bits. With the parameters 9 and 10 all numbers have such codes.
func TestLengthsOfRiceCodes(t *testing.T) {
	for k := range 9 {
		by := riceCode(k)
		most := (2000 - k) << k
		code, ok := by.of(most)
		if !ok || len(code) != 2000 {
			t.Errorf("RiceOf %d with %d has %d bits, %v", most, k, len(code), ok)
		}
		requireCode(t, by, most, strings.Repeat("1", 1999-k)+"0"+strings.Repeat("1", k))
		requireTaken(t, by, code, most, 2000)
		requireTaken(t, by, code+"0", most, 2000)
		requireTaken(t, by, code+strings.Repeat("1", 5000), most, 2000)
		for _, n := range []int{most + 1, most + 2, most + 1<<k, 2 * most, impl.MaxNumber} {
			requireNotNumbered(t, by, n)
		}
		for _, ones := range []int{2000 - k, 2001 - k, 1999, 2000, 2001, 3000} {
			if ones > 1999-k {
				requireNotTaken(t, by, strings.Repeat("1", ones)+strings.Repeat("0", 20))
				requireNotTaken(t, by, strings.Repeat("1", ones)+strings.Repeat("01", 20))
			}
		}
	}
	for k := 9; k <= 10; k++ {
		by := riceCode(k)
		last, _ := by.long(impl.MaxNumber)
		requireTaken(t, by, last, impl.MaxNumber, len(last))
		for more := uint64(1); more < 40; more++ {
			ones := len(last) - 1 - k
			requireNotTaken(t, by, last[:ones+1]+bitTextOf(numberOfBits(last[ones+1:])+more, k))
		}
		for ones := len(last) - k; ones <= 2010; ones++ {
			requireNotTaken(t, by, strings.Repeat("1", ones)+strings.Repeat("0", 20))
		}
	}
}

func TestTakingFromTheEmptyText(t *testing.T) {
	for _, by := range allCodes() {
		requireNotTaken(t, by, "")
	}
}

func TestCodesThatAreCutOff(t *testing.T) {
	for _, by := range allCodes() {
		for _, n := range append(upToNumber(300), turningNumbers()...) {
			// A number without a code has the empty one, which has no place to be cut off at.
			code, _ := by.long(n)
			for cut := range len(code) {
				requireNotTaken(t, by, code[:cut])
			}
		}
	}
}

func TestZerosAndOnes(t *testing.T) {
	lengths := []int{100, 255, 256, 257, 1000, 1999, 2000, 2001, 4000, 4001, 1 << 17}
	for length := 1; length < 70; length++ {
		lengths = append(lengths, length)
	}
	for _, length := range lengths {
		zeros, ones := strings.Repeat("0", length), strings.Repeat("1", length)
		for _, by := range eliasCodes() {
			requireNotTaken(t, by, zeros)
			requireTaken(t, by, ones, 1, 1)
		}
		requireNotTaken(t, fibonacciCode(), zeros)
		if length > 1 {
			requireTaken(t, fibonacciCode(), ones, 1, 2)
		}
		for k := range 11 {
			requireNotTaken(t, riceCode(k), ones)
			if length > k {
				requireTaken(t, riceCode(k), zeros, 1, k+1)
			} else {
				requireNotTaken(t, riceCode(k), zeros)
			}
		}
	}
	requireNotTaken(t, fibonacciCode(), "1")
}

// bitsBehind are texts that stand behind many zeros or ones.
func bitsBehind() []string {
	return []string{"", "0", "1", "01", "10", "11", strings.Repeat("0", 300), strings.Repeat("1", 300), mixedBits(300, 1), mixedBits(300, 2)}
}

func TestManyZerosOrOnesAtTheBeginning(t *testing.T) {
	for _, by := range allCodes() {
		for many := range 140 {
			for _, behind := range bitsBehind() {
				requireTakenAsLong(t, by, strings.Repeat("0", many)+behind)
				requireTakenAsLong(t, by, strings.Repeat("1", many)+behind)
				requireTakenAsLong(t, by, strings.Repeat("0", many)+"1"+behind)
				requireTakenAsLong(t, by, strings.Repeat("1", many)+"0"+behind)
			}
		}
	}
}

// In a code every other character than its bit is wrong; behind it none is.
func TestOtherCharactersInCodes(t *testing.T) {
	for _, by := range allCodes() {
		for _, n := range []int{1, 2, 3, 9, 11, 100, 1900} {
			code, _ := by.long(n)
			for place := range code {
				if place > 40 && place < len(code)-20 {
					continue
				}
				for b := range 256 {
					if b != '0' && b != '1' {
						requireNotTaken(t, by, code[:place]+string([]byte{byte(b)})+code[place+1:])
						requireNotTaken(t, by, code[:place]+string([]byte{byte(b)})+code[place:])
					}
				}
			}
			for b := range 256 {
				requireTaken(t, by, code+string([]byte{byte(b)}), n, len(code))
				requireTaken(t, by, code+string([]byte{byte(b), byte(b)}), n, len(code))
			}
		}
		for _, n := range fewNumbers() {
			if code, ok := by.long(n); ok {
				for _, text := range wrongBits(code) {
					requireNotTaken(t, by, text)
				}
				for _, text := range wrongBits(strings.Repeat("1", 8)) {
					requireTaken(t, by, code+text, n, len(code))
				}
			}
		}
		for _, text := range []string{"+1", "-1", "+0", "0x1", "0b1", "1_", "_1", " 1", "0 1", "00_1", "00+1", "00-1", "01_", "01+", "011_"} {
			requireTakenAsLong(t, by, text)
		}
	}
}

// numbersAbove are too great, also such that overflow to valid ones with 32 or 64 bits.
func numbersAbove() []*big.Int {
	var list []*big.Int
	for _, n := range []int64{impl.MaxNumber + 1, impl.MaxNumber + 2, 1<<20 - 1, 1 << 20, 1<<20 + 1, 1346268, 1346269, 1346270, 1 << 21, 1<<31 + 5, 1<<32 + 9, 1 << 40, 1 << 62, math.MaxInt64} {
		list = append(list, big.NewInt(n))
	}
	for _, power := range []uint{62, 63, 64, 65, 66, 127, 128, 192, 256, 1000} {
		for _, n := range []int64{0, 1, 5, 9, 1000, impl.MaxNumber} {
			number := new(big.Int).Lsh(big.NewInt(1), power)
			list = append(list, number.Add(number, big.NewInt(n)))
		}
	}
	return list
}

// bigFibonacci takes the greatest elements off a number.
func bigFibonacci(n *big.Int) string {
	elements := []*big.Int{big.NewInt(1), big.NewInt(2)}
	for len(elements) < 1500 {
		last := len(elements) - 1
		elements = append(elements, new(big.Int).Add(elements[last], elements[last-1]))
	}
	code, left := "", new(big.Int).Set(n)
	for _, element := range slices.Backward(elements) {
		if left.Cmp(element) >= 0 {
			left.Sub(left, element)
			code = "1" + code
		} else if code != "" {
			code = "0" + code
		}
	}
	return code + "1"
}

func TestCodesOfNumbersAboveMaxNumber(t *testing.T) {
	for n := int64(1); n < 200; n++ {
		if want, _ := longFibonacci(int(n)); bigFibonacci(big.NewInt(n)) != want {
			t.Fatalf("the Fibonacci code of %d is %q", n, bigFibonacci(big.NewInt(n)))
		}
	}
	for _, n := range numbersAbove() {
		digits := n.Text(2)
		for i, code := range []string{gammaOfDigits(digits), deltaOfDigits(digits), bigFibonacci(n)} {
			by := shortCodes()[i]
			for _, behind := range bitsBehind() {
				requireNotTaken(t, by, code+behind)
			}
			kind := []int{1, 2, 4}[i]
			first, _ := by.long(5)
			requireNoList(t, code, kind)
			requireNoList(t, first+code, kind)
		}
	}
}

// The sums of these elements, numbered from 0, are valid with an overflow of 64 bits.
func TestFibonacciCodesThatOverflow(t *testing.T) {
	for _, c := range []struct {
		sum      int
		elements []int
	}{
		{50966, []int{39, 41, 45, 51, 53, 55, 57, 59, 69, 75, 77, 79, 81, 83, 87, 89, 93, 101, 103, 107, 109, 113, 115, 117, 119}},
		{84338, []int{36, 38, 42, 56, 58, 64, 66, 70, 72, 74, 82, 84, 86, 90, 92, 94, 98, 102, 120, 124}},
		{95893, []int{34, 36, 42, 46, 50, 56, 58, 66, 68, 70, 72, 76, 78, 80, 84, 88, 92, 104, 106, 114}},
		{527688, []int{31, 35, 37, 39, 45, 47, 51, 53, 55, 57, 61, 63, 77, 83, 85, 87, 89, 91, 93, 95, 99, 101, 105, 109, 113}},
	} {
		code := make([]byte, c.elements[len(c.elements)-1]+1)
		sum, element, next := 0, 1, 2
		for i := range code {
			code[i] = '0'
			if slices.Contains(c.elements, i) {
				code[i] = '1'
				sum += element
			}
			element, next = next, element+next
		}
		if sum != c.sum {
			t.Fatalf("the sum is %d instead of %d", sum, c.sum)
		}
		requireNotTaken(t, fibonacciCode(), string(code)+"1")
		requireNoList(t, string(code)+"1", 4)
	}
}

// The Gamma part of a Delta code says how many binary digits there are.
func TestSizesOfDeltaCodes(t *testing.T) {
	by := eliasCodes()[1]
	behind := bitsBehind()
	for size := int64(1); size <= 300; size++ {
		code := gammaOfDigits(big.NewInt(size).Text(2))
		for _, bits := range behind {
			requireTakenAsLong(t, by, code+bits)
			if size > 20 {
				requireNotTaken(t, by, code+bits)
			}
		}
	}
	for _, size := range numbersAbove() {
		for _, bits := range behind {
			requireNotTaken(t, by, gammaOfDigits(size.Text(2))+bits)
		}
	}
	// 20 digits, but too great a number with the first one.
	requireTaken(t, by, "000010100"+"1110100001001000000", impl.MaxNumber, 28)
	requireNotTaken(t, by, "000010100"+"1110100001001000001")
	requireNotTaken(t, by, "000010100"+"1111111111111111111")
	requireTaken(t, by, "000010100"+"0000000000000000000", 1<<19, 28)
	// 21 digits, of which the last 20 would be valid.
	requireNotTaken(t, by, "000010101"+"00000000000000000001")
	for _, text := range []string{"0", "00", "000", "0000", "00x00", "0a1", "x", "x1", "0x", "01", "01x", "010x"} {
		requireNotTaken(t, by, text)
	}
}

// Of the numbers with 20 binary digits only some are valid.
func TestNumbersAroundMaxNumber(t *testing.T) {
	for n := impl.MaxNumber - 200; n <= impl.MaxNumber+200; n++ {
		number := big.NewInt(int64(n))
		digits := number.Text(2)
		for i, code := range []string{gammaOfDigits(digits), deltaOfDigits(digits), bigFibonacci(number)} {
			if n <= impl.MaxNumber {
				requireCode(t, shortCodes()[i], n, code)
				requireTaken(t, shortCodes()[i], code, n, len(code))
			} else {
				requireNotNumbered(t, shortCodes()[i], n)
				requireNotTaken(t, shortCodes()[i], code)
			}
		}
	}
}

func TestFibonacciCodesWithoutTwoOnes(t *testing.T) {
	by := fibonacciCode()
	requireTaken(t, by, "11", 1, 2)
	requireTaken(t, by, "111", 1, 2)
	requireTaken(t, by, "110", 1, 2)
	requireTaken(t, by, "0111", 2, 3)
	for length := range 40 {
		for _, pattern := range []string{"0", "10", "01", "100", "001", "010", "1000000"} {
			text := strings.Repeat(pattern, length)
			requireNotTaken(t, by, text)
			requireTakenAsLong(t, by, text+"11")
			requireTakenAsLong(t, by, text+"1")
		}
	}
	for _, pattern := range []string{"0", "10", "01", "100"} {
		requireNotTaken(t, by, strings.Repeat(pattern, 1<<17))
		requireNotTaken(t, by, strings.Repeat(pattern, 1<<17)+"11")
	}
	// The last element that a valid number has is the 29th.
	requireTaken(t, by, strings.Repeat("0", 28)+"11", 832040, 30)
	requireNotTaken(t, by, strings.Repeat("0", 29)+"11")
	requireNotTaken(t, by, strings.Repeat("0", 28)+"101")
	requireNotTaken(t, by, strings.Repeat("0", 28)+"1x")
}

func TestKindsOutside(t *testing.T) {
	for _, kind := range badKinds() {
		for _, list := range [][]int{nil, {}, {1}, {9, 1, 2}, {0}, {impl.MaxNumber}, make([]int, 31)} {
			requireNotEncodedList(t, list, kind)
		}
		for _, text := range []string{"", "1", "11", "0", "0000", "0001001", "x", strings.Repeat("0", 5000)} {
			requireNoList(t, text, kind)
		}
	}
}

func TestEmptyLists(t *testing.T) {
	for kind := 1; kind <= 4; kind++ {
		for _, none := range [][]int{nil, {}, make([]int, 0, 5)} {
			requireEncodedList(t, none, kind, "")
		}
		requireDecodedList(t, "", kind, nil)
	}
}

func TestLengthsOfNumberLists(t *testing.T) {
	for kind := 1; kind <= 4; kind++ {
		by := listCodes()[kind-1]
		for _, n := range []int{1, 2, 9, 1000} {
			for _, count := range []int{28, 29, 30} {
				requireListAndBack(t, slices.Repeat([]int{n}, count), kind)
			}
			for _, count := range []int{31, 32, 60, 256, 257, 286} {
				list := slices.Repeat([]int{n}, count)
				requireNotEncodedList(t, list, kind)
				requireNoList(t, longCodes(by, list), kind)
			}
		}
		requireNotEncodedList(t, mixedNumbers(31, 9, 1), kind)
		requireNoList(t, longCodes(by, mixedNumbers(31, 9, 1)), kind)
	}
}

func TestInvalidNumbersInLists(t *testing.T) {
	for kind := 1; kind <= 4; kind++ {
		for _, count := range []int{1, 2, 3, 29, 30} {
			for place := range count {
				list := slices.Repeat([]int{3}, count)
				for _, n := range badNumbers() {
					list[place] = n
					requireNotEncodedList(t, list, kind)
				}
				list[place] = 10000
				requireListAndBack(t, list, kind)
				if kind == 3 {
					list[place] = 15977
					requireNotEncodedList(t, list, kind)
				}
			}
		}
	}
}

// riceOfLength returns a number whose code in a list of kind 3 has this many bits, from 4 on.
func riceOfLength(length int) int {
	return (length-4)*8 + 1 + length%8
}

// Only lists of kind 3 can have more than 4000 bits: the other codes have at most 39.
func TestLengthsOfEncodedLists(t *testing.T) {
	for _, lengths := range [][]int{
		{2000, 2000}, {2000, 1996, 4}, {4, 2000, 1996}, {1000, 1000, 1000, 1000}, {1333, 1333, 1334}, {2000, 1999}, {2000, 1995, 4},
		{2000, 1992, 4, 4}, {2000, 1900, 50, 50},
	} {
		list := make([]int, len(lengths))
		for i, length := range lengths {
			list[i] = riceOfLength(length)
		}
		requireListAndBack(t, list, 3)
	}
	for _, lengths := range [][]int{
		{2000, 1997, 4}, {4, 2000, 1997}, {2000, 2000, 4}, {4, 2000, 2000}, {1333, 1334, 1334}, {1000, 1000, 1000, 1001}, {2000, 2000, 2000},
		{2000, 1993, 4, 4}, {2000, 1901, 50, 50}, {2001}, {4, 2001}, {2001, 1999},
	} {
		list := make([]int, len(lengths))
		codes := ""
		for i, length := range lengths {
			list[i] = riceOfLength(length)
			codes += strings.Repeat("1", length-4) + "0" + bitTextOf(uint64(length%8), 3)
		}
		requireNotEncodedList(t, list, 3)
		requireNoList(t, codes, 3)
	}
	for kind := 1; kind <= 4; kind++ {
		requireNotEncodedList(t, slices.Repeat([]int{impl.MaxNumber}, 31), kind)
		for _, length := range []int{3999, 4000, 4001, 5000, 1 << 17} {
			requireNoList(t, strings.Repeat("1", length), kind)
			requireNoList(t, strings.Repeat("0", length), kind)
			requireNoList(t, mixedBits(length, 1), kind)
		}
		if kind != 3 {
			requireListAndBack(t, slices.Repeat([]int{impl.MaxNumber}, 30), kind)
		}
	}
	requireNotEncodedList(t, slices.Repeat([]int{15976}, 30), 3)
	requireNotEncodedList(t, []int{impl.MaxNumber}, 3)
}

func TestWhatIsLeftOverBehindLists(t *testing.T) {
	for kind := 1; kind <= 4; kind++ {
		for _, list := range [][]int{nil, {1}, {9, 1, 2}, {5, 5, 100}, mixedNumbers(29, 8, 3), mixedNumbers(30, 8, 3)} {
			codes := longCodes(listCodes()[kind-1], list)
			requireDecodedList(t, codes, kind, list)
			for _, n := range fewNumbers() {
				if more, ok := listCodes()[kind-1].long(n); ok {
					for cut := 1; cut < len(more); cut += max(1, len(more)/40) {
						requireNoList(t, codes+more[:cut], kind)
					}
				}
			}
			for b := range 256 {
				if b != '0' && b != '1' {
					requireNoList(t, codes+string([]byte{byte(b)}), kind)
					requireNoList(t, string([]byte{byte(b)})+codes, kind)
				}
			}
			for _, text := range wrongBits(codes) {
				requireNoList(t, text, kind)
			}
		}
	}
}

func testNumberLists() [][]int {
	return [][]int{
		nil, {}, {1}, {9, 1, 2}, {0}, {3, -1, 3}, {impl.MaxNumber}, {impl.MaxNumber + 1}, {math.MaxInt, math.MinInt}, {15976, 15976, 1},
		mixedNumbers(29, 9, 1), mixedNumbers(30, 9, 1), mixedNumbers(31, 9, 1), slices.Repeat([]int{1}, 1000),
	}
}

func TestNumberListsAreNotModified(t *testing.T) {
	for _, list := range testNumberLists() {
		l, memory := roomy(list, 77)
		requireKeptList(t, memory, func() {
			for kind := -1; kind <= 6; kind++ {
				impl.EncodeList(l, kind)
			}
		})
	}
}

// What stands behind a list would change its encoding, or make it invalid, if it were read.
func TestSpareNumbersAreNotRead(t *testing.T) {
	for _, behind := range []int{1, 0, impl.MaxNumber, -1} {
		for kind := 1; kind <= 4; kind++ {
			for _, count := range []int{0, 1, 2, 29, 30} {
				l, _ := roomy(mixedNumbers(count, 9, 2), behind)
				requireListAndBack(t, l, kind)
			}
		}
	}
}

func TestNumberListsShareNoMemory(t *testing.T) {
	for _, n := range turningNumbers() {
		requireOwnList(t, func() ([]int, bool) { return impl.SumsOf(n) }, []byte(nil))
	}
	for kind := 1; kind <= 4; kind++ {
		for _, count := range []int{1, 2, 9, 30} {
			codes := longCodes(listCodes()[kind-1], mixedNumbers(count, 9, 4))
			requireOwnList(t, func() ([]int, bool) { return impl.DecodeList(codes, kind) }, []byte(codes))
		}
	}
}

func TestCodesShareNoMemory(t *testing.T) {
	for _, by := range allCodes() {
		for _, n := range fewNumbers() {
			code, ok := by.of(n)
			again, _ := by.of(n)
			// The texts of one byte are not made anew by the language itself.
			if ok && len(code) > 1 {
				requireApart(t, by.name, []string{code}, []string{again})
			}
		}
	}
	for kind := 1; kind <= 4; kind++ {
		list := mixedNumbers(20, 9, 1)
		codes, _ := impl.EncodeList(list, kind)
		again, _ := impl.EncodeList(list, kind)
		requireApart(t, "EncodeList", []string{codes}, []string{again})
		kept := strings.Clone(codes)
		clear(list)
		if codes != kept {
			t.Errorf("EncodeList by kind %d changes with its argument", kind)
		}
		single, _ := impl.EncodeList([]int{9}, kind)
		code, _ := listCodes()[kind-1].of(9)
		requireApart(t, "EncodeList", []string{single}, []string{code})
	}
}

// Texts that are parts of a longer one are not read beyond their ends.
func TestPartsOfCodes(t *testing.T) {
	for _, by := range allCodes() {
		for _, n := range fewNumbers() {
			code, ok := by.long(n)
			if !ok {
				continue
			}
			whole := "10" + code + code
			requireTaken(t, by, whole[2:], n, len(code))
			requireTaken(t, by, whole[2:2+len(code)], n, len(code))
			requireNotTaken(t, by, whole[2:1+len(code)])
			requireNotTaken(t, by, whole[2:2])
		}
	}
	for kind := 1; kind <= 4; kind++ {
		whole := longCodes(listCodes()[kind-1], mixedNumbers(30, 6, 1))
		for cut := range len(whole) + 1 {
			requireListAsLong(t, whole[:cut], kind)
		}
	}
}

func TestNumberCallsKeepNoState(t *testing.T) {
	for range 3 {
		for kind := 1; kind <= 4; kind++ {
			by := listCodes()[kind-1]
			requireNotNumbered(t, by, 0)
			requireNotTaken(t, by, "")
			requireNotEncodedList(t, []int{9, 0}, kind)
			requireNoList(t, "x", kind)
			requireNoSums(t, 0)
			code, _ := by.long(9)
			requireCode(t, by, 9, code)
			requireTaken(t, by, code, 9, len(code))
			requireListAndBack(t, []int{9, 1, 2}, kind)
			requireEncodedList(t, nil, kind, "")
			requireSumsTo(t, 11, []int{3, 8})
		}
	}
}
