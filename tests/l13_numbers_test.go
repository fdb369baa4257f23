package tests

import (
	"slices"
	"strconv"
	"strings"
	"sync"
	"testing"

	"loop.example/g00294/impl"
)

// numberCode is a kind of code: the functions of the program, and others that do without them.
type numberCode struct {
	name  string
	of    func(n int) (string, bool)
	take  func(s string) (int, int, bool)
	long  func(n int) (string, bool)
	guess func(code string) int
}

func eliasCodes() []numberCode {
	return []numberCode{
		{"Gamma", impl.GammaOf, impl.TakeGamma, longGamma, guessGamma},
		{"Delta", impl.DeltaOf, impl.TakeDelta, longDelta, guessDelta},
	}
}

func riceCode(k int) numberCode {
	return numberCode{
		name:  "Rice " + strconv.Itoa(k),
		of:    func(n int) (string, bool) { return impl.RiceOf(n, k) },
		take:  func(s string) (int, int, bool) { return impl.TakeRice(s, k) },
		long:  func(n int) (string, bool) { return longRice(n, k) },
		guess: func(code string) int { return guessRice(code, k) },
	}
}

func fibonacciCode() numberCode {
	return numberCode{"Fibonacci", impl.FibonacciOf, impl.TakeFibonacci, longFibonacci, guessFibonacci}
}

// shortCodes are the kinds of which every number has a short code.
func shortCodes() []numberCode {
	return append(eliasCodes(), fibonacciCode())
}

func allCodes() []numberCode {
	list := shortCodes()
	for k := range 11 {
		list = append(list, riceCode(k))
	}
	return list
}

// listCodes are the codes of the kinds 1 to 4 of lists.
func listCodes() []numberCode {
	return append(eliasCodes(), riceCode(3), fibonacciCode())
}

func longGamma(n int) (string, bool) {
	digits := strconv.FormatInt(int64(n), 2)
	return gammaOfDigits(digits), true
}

func gammaOfDigits(digits string) string {
	return strings.Repeat("0", len(digits)-1) + digits
}

func longDelta(n int) (string, bool) {
	digits := strconv.FormatInt(int64(n), 2)
	return deltaOfDigits(digits), true
}

func deltaOfDigits(digits string) string {
	return gammaOfDigits(strconv.FormatInt(int64(len(digits)), 2)) + digits[1:]
}

// longRice takes 2^k off as often as it can.
func longRice(n, k int) (string, bool) {
	power := 1
	for range k {
		power *= 2
	}
	ones := 0
	for n--; n >= power && ones <= 2000; n -= power {
		ones++
	}
	code := strings.Repeat("1", ones) + "0" + bitTextOf(uint64(n), k)
	if len(code) > 2000 {
		return "", false
	}
	return code, true
}

// longSequence returns 1, 2, 3, 5, 8 and so on up to MaxNumber.
func longSequence() []int {
	elements := []int{1, 2}
	for {
		next := elements[len(elements)-1] + elements[len(elements)-2]
		if next > impl.MaxNumber {
			return elements
		}
		elements = append(elements, next)
	}
}

// elementChoice is a choice of elements, bit i for element i, and how many choices have the same sum.
type elementChoice struct {
	elements uint32
	count    int
}

// choicesBySum goes through all choices without two consecutive elements, and keeps them by their sums.
var choicesBySum = sync.OnceValue(func() []elementChoice {
	table := make([]elementChoice, impl.MaxNumber+1)
	sequence := longSequence()
	var choose func(below, sum int, chosen uint32)
	choose = func(below, sum int, chosen uint32) {
		if sum > impl.MaxNumber {
			return
		}
		if below <= 0 {
			table[sum].elements = chosen
			table[sum].count++
			return
		}
		last := below - 1
		choose(last, sum, chosen)
		choose(last-1, sum+sequence[last], chosen|1<<last)
	}
	choose(len(sequence), 0, 0)
	return table
})

func longSumsTo(n int) []int {
	var sums []int
	chosen := choicesBySum()[n].elements
	for i, element := range longSequence() {
		if chosen>>i&1 == 1 {
			sums = append(sums, element)
		}
	}
	return sums
}

func longFibonacci(n int) (string, bool) {
	digits := []byte(strconv.FormatUint(uint64(choicesBySum()[n].elements), 2))
	slices.Reverse(digits)
	return string(digits) + "1", true
}

// The guesses return the only number that a text can be the code of.

func guessGamma(code string) int {
	return limited(code[len(code)/2:])
}

func guessDelta(code string) int {
	for count := 1; count <= 20; count++ {
		size, _ := longGamma(count)
		if len(size)+count-1 == len(code) {
			return limited("1" + code[len(size):])
		}
	}
	return 0
}

func guessRice(code string, k int) int {
	ones := len(code) - 1 - k
	if ones < 0 {
		return 0
	}
	return ones<<k + limited(code[len(code)-k:]) + 1
}

func guessFibonacci(code string) int {
	sum := 0
	for i, element := range longSequence() {
		if i < len(code)-1 && code[i] == '1' {
			sum += element
		}
	}
	return sum
}

// limited returns the number with these binary digits, or 0 if they are too many.
func limited(digits string) int {
	if len(digits) > 20 {
		return 0
	}
	return int(numberOfBits(digits))
}

// longTaken guesses a number for each beginning of a text, and holds its code against that.
func longTaken(by numberCode, text string) (int, int, bool) {
	for length := 1; length <= min(len(text), 2000); length++ {
		n := by.guess(text[:length])
		if n < 1 || n > impl.MaxNumber {
			continue
		}
		if code, ok := by.long(n); ok && code == text[:length] {
			return n, length, true
		}
	}
	return 0, 0, false
}

func longList(by numberCode, text string) ([]int, bool) {
	var list []int
	for text != "" {
		n, length, ok := longTaken(by, text)
		if !ok || len(list) == 30 {
			return nil, false
		}
		list = append(list, n)
		text = text[length:]
	}
	return list, true
}

// longCodes returns the codes of numbers one after the other.
func longCodes(by numberCode, list []int) string {
	var codes strings.Builder
	for _, n := range list {
		code, _ := by.long(n)
		codes.WriteString(code)
	}
	return codes.String()
}

// turningNumbers are those around the powers of two and the elements of the sequence, and around the
// end of all numbers.
func turningNumbers() []int {
	var list []int
	for power := 1; power <= impl.MaxNumber; power *= 2 {
		list = append(list, power-1, power, power+1)
	}
	for _, element := range longSequence() {
		list = append(list, element-1, element, element+1)
	}
	for away := range 20 {
		list = append(list, impl.MaxNumber-away)
	}
	slices.Sort(list)
	return slices.DeleteFunc(slices.Compact(list), func(n int) bool { return n < 1 || n > impl.MaxNumber })
}

// someNumbers are the small ones, the turning ones and many between.
func someNumbers() []int {
	list := append(upToNumber(3000), turningNumbers()...)
	for n := 3001; n <= impl.MaxNumber; n += 991 {
		list = append(list, n)
	}
	slices.Sort(list)
	return slices.Compact(list)
}

func upToNumber(most int) []int {
	var list []int
	for n := 1; n <= most; n++ {
		list = append(list, n)
	}
	return list
}

// fewNumbers are enough where a test goes through all places or bytes of their codes.
func fewNumbers() []int {
	return []int{1, 2, 3, 4, 5, 7, 8, 9, 11, 13, 16, 100, 255, 256, 610, 987, 1999, 2000, 4181, 65535, 65536, 524287, 524288, 832039, 832040, 999999, 1000000}
}

func requireCode(t *testing.T, by numberCode, n int, want string) {
	t.Helper()
	if got, ok := by.of(n); got != want || !ok {
		t.Fatalf("%s code of %d: %q, %v, want %q", by.name, n, got, ok, want)
	}
}

func requireTaken(t *testing.T, by numberCode, text string, want, length int) {
	t.Helper()
	if got, size, ok := by.take(text); got != want || size != length || !ok {
		t.Fatalf("%s number of %.80q: %d, %d, %v, want %d, %d", by.name, text, got, size, ok, want, length)
	}
}

// requireTakenAsLong compares what is taken from a text with trying all its beginnings.
func requireTakenAsLong(t *testing.T, by numberCode, text string) bool {
	t.Helper()
	n, length, ok := longTaken(by, text)
	if ok {
		requireTaken(t, by, text, n, length)
	} else {
		requireNotTaken(t, by, text)
	}
	return ok
}

func requireSumsTo(t *testing.T, n int, want []int) {
	t.Helper()
	if got, ok := impl.SumsOf(n); !slices.Equal(got, want) || !ok {
		t.Fatalf("SumsOf %d: %v, %v, want %v", n, got, ok, want)
	}
}

func requireEncodedList(t *testing.T, list []int, kind int, want string) {
	t.Helper()
	if got, ok := impl.EncodeList(list, kind); got != want || !ok {
		t.Fatalf("EncodeList of %v by kind %d: %.80q, %v, want %.80q", list, kind, got, ok, want)
	}
}

func requireDecodedList(t *testing.T, text string, kind int, want []int) {
	t.Helper()
	if got, ok := impl.DecodeList(text, kind); !slices.Equal(got, want) || !ok {
		t.Fatalf("DecodeList of %.80q by kind %d: %v, %v, want %v", text, kind, got, ok, want)
	}
}

// requireListAndBack checks both directions.
func requireListAndBack(t *testing.T, list []int, kind int) {
	t.Helper()
	codes := longCodes(listCodes()[kind-1], list)
	requireEncodedList(t, list, kind, codes)
	requireDecodedList(t, codes, kind, list)
}

func TestExamplesOfNumbers(t *testing.T) {
	requireCode(t, eliasCodes()[0], 9, "0001001")
	requireCode(t, eliasCodes()[1], 9, "00100001")
	requireCode(t, riceCode(2), 9, "11000")
	requireSumsTo(t, 11, []int{3, 8})
	requireCode(t, fibonacciCode(), 11, "001011")
	requireTaken(t, eliasCodes()[0], "0001001", 9, 7)
	requireTaken(t, eliasCodes()[1], "00100001", 9, 8)
	requireTaken(t, riceCode(2), "11000", 9, 5)
	requireTaken(t, fibonacciCode(), "001011", 11, 6)
	requireEncodedList(t, []int{9, 1, 2}, 1, "0001001"+"1"+"010")
	requireEncodedList(t, []int{9, 1, 2}, 2, "00100001"+"1"+"0100")
	requireEncodedList(t, []int{9, 1, 2}, 3, "10000"+"0000"+"0001")
	requireEncodedList(t, []int{9, 1, 2}, 4, "100011"+"11"+"011")
	for kind := 1; kind <= 4; kind++ {
		requireListAndBack(t, []int{9, 1, 2}, kind)
	}
}

func TestCodesOfTheFirstNumbers(t *testing.T) {
	for i, codes := range [][]string{
		{"1", "010", "011", "00100", "00101", "00110", "00111", "0001000"},
		{"1", "0100", "0101", "01100", "01101", "01110", "01111", "00100000"},
		{"11", "011", "0011", "1011", "00011", "10011", "01011", "000011"},
	} {
		for n, code := range codes {
			requireCode(t, shortCodes()[i], n+1, code)
			requireTaken(t, shortCodes()[i], code, n+1, len(code))
		}
	}
	for k, codes := range [][]string{
		{"0", "10", "110", "1110", "11110"},
		{"00", "01", "100", "101", "1100"},
		{"000", "001", "010", "011", "1000"},
		{"0000", "0001", "0010", "0011", "0100"},
	} {
		for n, code := range codes {
			requireCode(t, riceCode(k), n+1, code)
			requireTaken(t, riceCode(k), code, n+1, len(code))
		}
	}
}

func TestCodesOfMaxNumber(t *testing.T) {
	const digits = "11110100001001000000"
	requireCode(t, eliasCodes()[0], impl.MaxNumber, "0000000000000000000"+digits)
	requireCode(t, eliasCodes()[1], impl.MaxNumber, "000010100"+digits[1:])
	requireCode(t, riceCode(10), impl.MaxNumber, strings.Repeat("1", 976)+"0"+"1000111111")
	requireCode(t, riceCode(9), impl.MaxNumber, strings.Repeat("1", 1953)+"0"+"000111111")
	requireSumsTo(t, impl.MaxNumber, []int{55, 144, 46368, 121393, 832040})
	requireCode(t, fibonacciCode(), impl.MaxNumber, "000000001010000000000010100011")
}

// The codes of all kinds are those of the references, and these are taken back.
func TestCodesOfNumbers(t *testing.T) {
	for _, by := range allCodes() {
		for _, n := range someNumbers() {
			code, ok := by.long(n)
			if !ok {
				requireNotNumbered(t, by, n)
				continue
			}
			requireCode(t, by, n, code)
			requireTaken(t, by, code, n, len(code))
			if len(code) < 100 {
				requireTakenAsLong(t, by, code)
			}
		}
	}
}

// followers are texts that may stand behind a code, among them those that would continue it, and those
// that are none of bits.
func followers() []string {
	return []string{
		"", "0", "1", "00", "01", "10", "11", "0000000000000000000000", "1111111111111111111111", "0101010101", "1010101010",
		mixedBits(60, 1), mixedBits(60, 2), "2", "x1", "\x00", "é", " 0", "\xff",
	}
}

func TestNumbersAreTakenWhateverFollows(t *testing.T) {
	for _, by := range allCodes() {
		for _, n := range someNumbers() {
			code, ok := by.of(n)
			if !ok {
				continue
			}
			for _, follower := range followers() {
				requireTaken(t, by, code+follower, n, len(code))
			}
			requireTaken(t, by, code+code, n, len(code))
		}
		for n := 1; n <= 40; n++ {
			code, _ := by.of(n)
			for length := range 8 {
				for _, follower := range allBits(length) {
					requireTaken(t, by, code+follower, n, len(code))
				}
			}
		}
		for _, n := range turningNumbers() {
			code, ok := by.of(n)
			for _, other := range fewNumbers() {
				if next, okNext := by.of(other); ok && okNext {
					requireTaken(t, by, code+next, n, len(code))
				}
			}
		}
	}
}

// Every number has short codes of these kinds, so that all can be tried.
func TestShortCodesOfAllNumbers(t *testing.T) {
	for _, by := range shortCodes() {
		for n := 1; n <= impl.MaxNumber; n++ {
			code, _ := by.long(n)
			requireCode(t, by, n, code)
			requireTaken(t, by, code+"10"[n%2:], n, len(code))
		}
	}
}

func TestNoCodeIsTheBeginningOfAnother(t *testing.T) {
	for _, by := range allCodes() {
		var codes []string
		for _, n := range append(upToNumber(20000), someNumbers()...) {
			if code, ok := by.of(n); ok {
				codes = append(codes, code)
			}
		}
		// If a text is the beginning of others, then of the one next to it in order, too.
		slices.Sort(codes)
		codes = slices.Compact(codes)
		if len(codes) < 1990 {
			t.Errorf("there are only %d %s codes", len(codes), by.name)
		}
		for i := 1; i < len(codes); i++ {
			if strings.HasPrefix(codes[i], codes[i-1]) {
				t.Fatalf("the %s code %q is the beginning of %q", by.name, codes[i-1], codes[i])
			}
		}
	}
}

// Numbers are in the order of their Gamma, Delta and Rice codes by length and then by bits.
func TestCodesGrow(t *testing.T) {
	for _, by := range append(eliasCodes(), riceCode(0), riceCode(3), riceCode(10)) {
		before := ""
		for n := 1; n <= 1990; n++ {
			code, ok := by.of(n)
			if !ok || len(code) < len(before) || len(code) == len(before) && code <= before {
				t.Fatalf("the %s code of %d is %q, and that of the number before %q", by.name, n, code, before)
			}
			before = code
		}
	}
}

// Of all choices of elements without consecutive ones, exactly one has each sum, and this is SumsOf.
func TestSumsAreUnique(t *testing.T) {
	sequence := longSequence()
	if len(sequence) != 29 || sequence[28] != 832040 {
		t.Fatalf("the sequence is %v", sequence)
	}
	for n, choice := range choicesBySum() {
		if choice.count != 1 {
			t.Fatalf("%d choices have the sum %d", choice.count, n)
		}
		if n > 0 {
			requireSumsTo(t, n, longSumsTo(n))
		}
	}
}

func TestSumsAreIncreasingAndNotConsecutive(t *testing.T) {
	sequence := longSequence()
	for n := 1; n <= impl.MaxNumber; n++ {
		sums, ok := impl.SumsOf(n)
		sum, before := 0, -2
		for _, element := range sums {
			place, found := slices.BinarySearch(sequence, element)
			if !found || place < before+2 {
				t.Fatalf("SumsOf %d: %v", n, sums)
			}
			sum += element
			before = place
		}
		if !ok || sum != n {
			t.Fatalf("SumsOf %d: %v, %v, with the sum %d", n, sums, ok, sum)
		}
	}
	for _, element := range sequence {
		requireSumsTo(t, element, []int{element})
	}
	requireSumsTo(t, 4, []int{1, 3})
	requireSumsTo(t, 100, []int{3, 8, 89})
	// One less than an element is the sum of every other element before it.
	requireSumsTo(t, 54, []int{2, 5, 13, 34})
	requireSumsTo(t, 88, []int{1, 3, 8, 21, 55})
}

func TestFibonacciCodesMatchSums(t *testing.T) {
	sequence := longSequence()
	for n := 1; n <= impl.MaxNumber; n++ {
		code, ok := impl.FibonacciOf(n)
		if !ok || strings.Index(code, "11") != len(code)-2 {
			t.Fatalf("FibonacciOf %d: %q, %v", n, code, ok)
		}
		var sums []int
		for i := range len(code) - 1 {
			if code[i] == '1' {
				sums = append(sums, sequence[i])
			}
		}
		requireSumsTo(t, n, sums)
	}
}

// All short texts have the numbers that are found by trying all their beginnings.
func TestNumbersOfAllShortTexts(t *testing.T) {
	for _, by := range allCodes() {
		taken, refused := 0, 0
		for length := range 13 {
			for _, text := range allBits(length) {
				if requireTakenAsLong(t, by, text) {
					taken++
				} else {
					refused++
				}
			}
		}
		if taken < 100 || refused < 10 {
			t.Errorf("%s: only %d texts have a number and %d have none", by.name, taken, refused)
		}
	}
}

func TestNumbersOfLongerTexts(t *testing.T) {
	for _, by := range allCodes() {
		for length := 13; length <= 70; length++ {
			for seed := range 4 {
				requireTakenAsLong(t, by, mixedBits(length, seed))
			}
			for zeros := range min(length, 45) {
				requireTakenAsLong(t, by, strings.Repeat("0", zeros)+mixedBits(length-zeros, zeros))
				requireTakenAsLong(t, by, strings.Repeat("1", zeros)+mixedBits(length-zeros, zeros))
				requireTakenAsLong(t, by, strings.Repeat("01", zeros)+mixedBits(length-zeros, zeros))
			}
		}
	}
}

// numberLists returns all lists of up to some of these numbers.
func numberLists(numbers []int, most int) [][]int {
	lists := [][]int{nil}
	last := lists
	for range most {
		var longer [][]int
		for _, l := range last {
			for _, n := range numbers {
				longer = append(longer, append(slices.Clone(l), n))
			}
		}
		lists = append(lists, longer...)
		last = longer
	}
	return lists
}

// mixedNumbers returns numbers of all sizes up to a number of digits.
func mixedNumbers(count, digits, seed int) []int {
	list := make([]int, count)
	for i := range list {
		size := 1 + int(mixedByte(seed, i, 1))%digits
		n := int(mixedByte(seed, i, 2))<<16 | int(mixedByte(seed, i, 3))<<8 | int(mixedByte(seed, i, 4))
		list[i] = min(n%(1<<size)+1, impl.MaxNumber)
	}
	return list
}

func TestListsAreRecovered(t *testing.T) {
	for kind := 1; kind <= 4; kind++ {
		for _, list := range numberLists([]int{1, 2, 3, 8, 9, 21, 64, 5000}, 4) {
			requireListAndBack(t, list, kind)
		}
		for _, list := range numberLists([]int{1, 4, 1596, 1597, 1598, 15976}, 2) {
			requireListAndBack(t, list, kind)
		}
		for count := range impl.MaxList + 1 {
			for seed := range 20 {
				requireListAndBack(t, mixedNumbers(count, 9, seed), kind)
				if kind != 3 {
					requireListAndBack(t, mixedNumbers(count, 20, seed), kind)
				}
			}
		}
	}
	for kind := range 4 {
		for _, n := range someNumbers() {
			if code, ok := listCodes()[kind].long(n); ok {
				requireEncodedList(t, []int{n}, kind+1, code)
				requireDecodedList(t, code, kind+1, []int{n})
			}
		}
	}
}

// requireListAsLong compares a decoded text with taking numbers one by one, and encodes it again.
func requireListAsLong(t *testing.T, text string, kind int) bool {
	t.Helper()
	list, ok := longList(listCodes()[kind-1], text)
	if !ok {
		requireNoList(t, text, kind)
		return false
	}
	requireDecodedList(t, text, kind, list)
	requireEncodedList(t, list, kind, text)
	return true
}

func TestListsOfAllShortTexts(t *testing.T) {
	for kind := 1; kind <= 4; kind++ {
		decoded, refused := 0, 0
		for length := range 13 {
			for _, text := range allBits(length) {
				if requireListAsLong(t, text, kind) {
					decoded++
				} else {
					refused++
				}
			}
		}
		if decoded < 200 || refused < 200 {
			t.Errorf("kind %d: only %d texts are lists and %d are none", kind, decoded, refused)
		}
	}
}

// Encodings of which a bit is inverted or left out, or the end or the beginning cut off, are those of other lists or of none.
func TestListsOfChangedTexts(t *testing.T) {
	for kind := 1; kind <= 4; kind++ {
		decoded, refused := 0, 0
		for count := 1; count <= impl.MaxList; count += 3 {
			codes := longCodes(listCodes()[kind-1], mixedNumbers(count, 9, kind))
			for place := range len(codes) {
				for _, text := range []string{longFlip(codes, []int{place}), codes[:place] + codes[place+1:], codes[:place], codes[place:]} {
					if requireListAsLong(t, text, kind) {
						decoded++
					} else {
						refused++
					}
				}
			}
		}
		if decoded < 20 || refused < 20 {
			t.Errorf("kind %d: only %d changed texts are lists and %d are none", kind, decoded, refused)
		}
	}
}
