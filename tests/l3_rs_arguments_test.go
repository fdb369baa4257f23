package tests

import (
	"math"
	"slices"
	"strings"
	"testing"
	"unsafe"

	"loop.example/g00294/impl"
)

// unusualInts lie far outside of every range, and near one if only some of their bits are looked at.
func unusualInts() []int {
	return []int{math.MinInt, math.MinInt + 1, -1 << 32, -256, -1, 256, 257, 1 << 32, 1<<32 + 1, 1<<32 + 3, math.MaxInt - 1, math.MaxInt}
}

func requireNoShards(t *testing.T, shards []impl.Shard, ok bool) {
	t.Helper()
	if len(shards) != 0 || ok {
		t.Errorf("EncodeShards: %#v, %v", shards, ok)
	}
}

// requireNoneOf checks that no function takes these shards.
func requireNoneOf(t *testing.T, shards []impl.Shard, k, m int) {
	t.Helper()
	if got, ok := impl.DecodeShards(shards, k, m); len(got) != 0 || ok {
		t.Errorf("DecodeShards of %#v with %d, %d: %q, %v", shards, k, m, got, ok)
	}
	if right, ok := impl.CheckShards(shards, k, m); right || ok {
		t.Errorf("CheckShards of %#v with %d, %d: %v, %v", shards, k, m, right, ok)
	}
	for _, no := range []int{-1, 0, 1, 2, k, k + m - 1, k + m} {
		requireNotRebuilt(t, shards, k, m, no)
	}
}

func requireNotRebuilt(t *testing.T, shards []impl.Shard, k, m, no int) {
	t.Helper()
	if got, ok := impl.RebuildShard(shards, k, m, no); got != (impl.Shard{}) || ok {
		t.Errorf("RebuildShard %d of %#v with %d, %d: %#v, %v", no, shards, k, m, got, ok)
	}
}

func TestShapes(t *testing.T) {
	if impl.MaxData != 8 || impl.MaxParity != 6 || impl.MaxShard != 40 {
		t.Errorf("the limits are %d, %d and %d", impl.MaxData, impl.MaxParity, impl.MaxShard)
	}
	numbers := append(unusualInts(), 0, 1, 2, 3, 4, 5, 6, 7, 8, 9, 10)
	for _, k := range numbers {
		for _, m := range numbers {
			good := k >= 1 && k <= 8 && m >= 1 && m <= 6
			if impl.GoodShape(k, m) != good {
				t.Errorf("GoodShape(%d, %d) is %v", k, m, !good)
			}
			code, ok := impl.CodeMatrix(k, m)
			requireSides(t, "CodeMatrix", code, ok, good, k+m, k)
			if !good {
				requireNoneOf(t, nil, k, m)
				requireNoneOf(t, numbered("ab", "cd", "ef"), k, m)
				requireNoneOf(t, numbered(mixedTexts(14, 2, 1)...), k, m)
			}
		}
	}
}

func TestEncodeShardsOutsideOfTheShapes(t *testing.T) {
	for count := 0; count <= 10; count++ {
		data := mixedTexts(count, 3, 1)
		for _, m := range append(unusualInts(), 0, 1, 2, 5, 6, 7, 8) {
			shards, ok := impl.EncodeShards(data, m)
			if count < 1 || count > 8 || m < 1 || m > 6 {
				requireNoShards(t, shards, ok)
			} else if !ok || !slices.Equal(shards, longShards(data, m)) {
				t.Errorf("EncodeShards of %q with %d parities: %#v, %v", data, m, shards, ok)
			}
		}
	}
	shards, ok := impl.EncodeShards(nil, 2)
	requireNoShards(t, shards, ok)
	shards, ok = impl.EncodeShards(make([]string, 100), 2)
	requireNoShards(t, shards, ok)
}

func TestEncodeShardsOfUnequalLengths(t *testing.T) {
	for _, data := range [][]string{
		{"a", ""},
		{"", "a"},
		{"ab", "cd", "e"},
		{"ab", "cd", "efg"},
		{"a", "cd", "ef"},
		{"abc", "d", "efg"},
		{"a", "b", "c", "d", "e", "f", "g", "hh"},
		{strings.Repeat("a", 40), strings.Repeat("b", 39)},
		{strings.Repeat("a", 40), strings.Repeat("b", 41)},
		{strings.Repeat("a", 41), strings.Repeat("b", 40)},
	} {
		for m := 1; m <= 6; m++ {
			shards, ok := impl.EncodeShards(data, m)
			requireNoShards(t, shards, ok)
		}
	}
}

func TestLongData(t *testing.T) {
	for _, s := range allShapes() {
		for _, length := range []int{40, 41, 80, 81, 1000} {
			data := mixedTexts(s.k, length, 2)
			shards, ok := impl.EncodeShards(data, s.m)
			if length <= 40 {
				requireDecoded(t, shards, s, data)
				requireChecked(t, shards, s, true)
				requireRebuilt(t, shards, s, shards[s.k])
				continue
			}
			requireNoShards(t, shards, ok)
			requireNoneOf(t, longShards(data, s.m), s.k, s.m)
		}
	}
}

func TestTooFewShards(t *testing.T) {
	for _, s := range allShapes() {
		shards := longShards(mixedTexts(s.k, 2, 6), s.m)
		for count := range s.k {
			requireNoneOf(t, shards[:count], s.k, s.m)
			requireNoneOf(t, shards[len(shards)-count:], s.k, s.m)
		}
		requireNoneOf(t, nil, s.k, s.m)
	}
}

func TestTooManyShards(t *testing.T) {
	for _, s := range allShapes() {
		shards := longShards(mixedTexts(s.k, 2, 6), s.m)
		last := shards[len(shards)-1]
		requireNoneOf(t, append(slices.Clone(shards), last), s.k, s.m)
		last.No++
		requireNoneOf(t, append(slices.Clone(shards), last), s.k, s.m)
		requireNoneOf(t, slices.Insert(slices.Clone(shards), 0, impl.Shard{No: -1, Data: "xx"}), s.k, s.m)
		requireNoneOf(t, slices.Repeat(shards, 100), s.k, s.m)
	}
}

// The numbers are judged wherever they stand, also behind the first k shards.
func TestNumbersOutOfRange(t *testing.T) {
	for _, s := range smallShapes() {
		shards := longShards(mixedTexts(s.k, 2, 6), s.m)
		for place := range shards {
			for _, no := range append(unusualInts(), s.k+s.m, s.k+s.m+1, 14, 15, 16) {
				if no >= 0 && no < s.k+s.m {
					continue
				}
				wrong := slices.Clone(shards)
				wrong[place].No = no
				requireNoneOf(t, wrong, s.k, s.m)
				requireNoneOf(t, wrong[:place+1], s.k, s.m)
				requireNoneOf(t, wrong[place:], s.k, s.m)
			}
		}
	}
}

func TestNumbersThatDoNotIncrease(t *testing.T) {
	for _, s := range smallShapes() {
		shards := longShards(mixedTexts(s.k, 2, 6), s.m)
		for place := 1; place < len(shards); place++ {
			doubled := slices.Clone(shards)
			doubled[place] = doubled[place-1]
			requireNoneOf(t, doubled, s.k, s.m)
			swapped := slices.Clone(shards)
			swapped[place], swapped[place-1] = swapped[place-1], swapped[place]
			requireNoneOf(t, swapped, s.k, s.m)
			moved := slices.Clone(shards)
			moved[place], moved[0] = moved[0], moved[place]
			requireNoneOf(t, moved, s.k, s.m)
		}
		slices.Reverse(shards)
		requireNoneOf(t, shards, s.k, s.m)
	}
}

func TestShardsOfUnequalLengths(t *testing.T) {
	for _, s := range smallShapes() {
		for _, length := range []int{0, 1, 3, 39, 40} {
			shards := longShards(mixedTexts(s.k, length, 6), s.m)
			for place := range shards {
				for _, other := range []int{0, 1, 2, 3, 4, 39, 40, 41} {
					if other == length {
						continue
					}
					wrong := slices.Clone(shards)
					wrong[place].Data = strings.Repeat("x", other)
					requireNoneOf(t, wrong, s.k, s.m)
				}
			}
		}
	}
}

func TestRebuildNumbersOutOfRange(t *testing.T) {
	for _, s := range allShapes() {
		for _, length := range []int{0, 2} {
			shards := longShards(mixedTexts(s.k, length, 6), s.m)
			for _, no := range append(unusualInts(), -s.k, s.k+s.m, s.k+s.m+1, 14, 15, 16) {
				if no < 0 || no >= s.k+s.m {
					requireNotRebuilt(t, shards, s.k, s.m, no)
					requireNotRebuilt(t, shards[:s.k], s.k, s.m, no)
				}
			}
		}
	}
}

// Shards that one shape has may be too many for another one.
func TestShardsOfAnotherShape(t *testing.T) {
	shards := longShards(mixedTexts(3, 2, 6), 4)
	requireNoneOf(t, shards, 3, 3)
	requireNoneOf(t, shards, 2, 4)
	requireNoneOf(t, shards, 8, 6)
	requireNoneOf(t, shards[4:], 3, 1)
	requireDecoded(t, shards[4:], shape{3, 4}, mixedTexts(3, 2, 6))
	// The parities of a shape begin with those of a shape with fewer.
	requireDecoded(t, shards[3:6], shape{3, 3}, mixedTexts(3, 2, 6))
}

func TestSplitTextLimits(t *testing.T) {
	for k := 1; k <= 8; k++ {
		for _, size := range []int{0, k*40 - 1, k * 40, k*40 + 1, k*40 + k, 10000} {
			got, ok := impl.SplitText(strings.Repeat("a", size), k)
			if size <= k*40 {
				if !ok || len(got) != k || !strings.HasPrefix(strings.Join(got, ""), strings.Repeat("a", size)) {
					t.Errorf("SplitText of %d bytes into %d: %q, %v", size, k, got, ok)
				}
			} else if ok || len(got) != 0 {
				t.Errorf("SplitText of %d bytes into %d: %q, %v", size, k, got, ok)
			}
		}
	}
	for _, k := range append(unusualInts(), -8, 0, 9, 10) {
		for _, text := range []string{"", "a", strings.Repeat("a", 320), strings.Repeat("a", 360)} {
			if got, ok := impl.SplitText(text, k); ok || len(got) != 0 {
				t.Errorf("SplitText of %d bytes into %d: %q, %v", len(text), k, got, ok)
			}
		}
	}
}

func TestJoinShardsLimits(t *testing.T) {
	for count := 0; count <= 10; count++ {
		for _, length := range []int{0, 1, 39, 40, 41, 80} {
			texts := mixedTexts(count, length, 3)
			all := strings.Join(texts, "")
			for _, size := range append(unusualInts(), 0, 1, len(all)-1, len(all), len(all)+1, len(all)+count, len(all)+40) {
				got, ok := impl.JoinShards(texts, size)
				if count >= 1 && count <= 8 && length <= 40 && size >= 0 && size <= len(all) {
					if !ok || got != all[:size] {
						t.Errorf("JoinShards of %q with size %d: %q, %v", texts, size, got, ok)
					}
				} else if ok || got != "" {
					t.Errorf("JoinShards of %q with size %d: %q, %v", texts, size, got, ok)
				}
			}
		}
	}
}

func TestJoinShardsOfUnequalLengths(t *testing.T) {
	for _, texts := range [][]string{
		{"a", ""}, {"", "a"}, {"ab", "c"}, {"a", "bc"}, {"ab", "cd", "e"}, {"ab", "c", "de"},
		{strings.Repeat("a", 40), strings.Repeat("a", 41)},
		{strings.Repeat("a", 41), strings.Repeat("a", 40)},
	} {
		for size := range 4 {
			if got, ok := impl.JoinShards(texts, size); ok || got != "" {
				t.Errorf("JoinShards of %q with size %d: %q, %v", texts, size, got, ok)
			}
		}
	}
	if got, ok := impl.JoinShards(nil, 0); ok || got != "" {
		t.Errorf("JoinShards without texts: %q, %v", got, ok)
	}
}

// roomy returns a list with spare memory behind it, filled with a given element.
func roomy[E any](list []E, behind E) (front, memory []E) {
	memory = append(slices.Clone(list), behind, behind, behind)
	return memory[:len(list)], memory
}

func testShards() [][]impl.Shard {
	right := longShards(mixedTexts(3, 4, 2), 2)
	return [][]impl.Shard{
		nil, {}, right, right[2:], right[:2], spoiled(right, 1, 1, 1), spoiled(right, 4, 1, 1),
		{right[1], right[0], right[2]}, {right[1], right[1], right[2]},
		numbered("a", "b", "cc"), numbered("", "", ""), numbered(mixedTexts(9, 41, 1)...),
	}
}

func TestShardArgumentsAreNotModified(t *testing.T) {
	for _, list := range testShards() {
		shards, memory := roomy(list, impl.Shard{No: 99, Data: "spare"})
		before := slices.Clone(memory)
		for _, s := range []shape{{3, 2}, {2, 3}, {1, 6}, {0, 1}, {8, 6}} {
			impl.DecodeShards(shards, s.k, s.m)
			impl.CheckShards(shards, s.k, s.m)
			for no := -1; no <= s.k+s.m; no++ {
				impl.RebuildShard(shards, s.k, s.m, no)
			}
		}
		if !slices.Equal(memory, before) {
			t.Errorf("the shards %#v became %#v", before, memory)
		}
	}
	for _, list := range [][]string{nil, {}, {"ab"}, {"ab", "cd"}, {"ab", "c"}, mixedTexts(8, 40, 1), mixedTexts(9, 41, 1)} {
		texts, memory := roomy(list, "spare")
		before := slices.Clone(memory)
		for n := -1; n <= 7; n++ {
			impl.EncodeShards(texts, n)
			impl.JoinShards(texts, n)
		}
		if !slices.Equal(memory, before) {
			t.Errorf("the texts %q became %q", before, memory)
		}
	}
}

// What stands behind a list would make it valid, or invalid, if it were read.
func TestSpareShardsAreNotRead(t *testing.T) {
	right := longShards(mixedTexts(3, 4, 2), 2)
	requireNoneOf(t, right[:2], 3, 2)
	for _, list := range testShards() {
		shards, _ := roomy(list, impl.Shard{No: 99, Data: "spare"})
		want, ok := impl.DecodeShards(slices.Clip(slices.Clone(list)), 3, 2)
		if got, gotOk := impl.DecodeShards(shards, 3, 2); gotOk != ok || !slices.Equal(got, want) {
			t.Errorf("DecodeShards of %#v depends on its spare memory: %q, %v", list, got, gotOk)
		}
		isRight, ok := impl.CheckShards(slices.Clip(slices.Clone(list)), 3, 2)
		if got, gotOk := impl.CheckShards(shards, 3, 2); gotOk != ok || got != isRight {
			t.Errorf("CheckShards of %#v depends on its spare memory: %v, %v", list, got, gotOk)
		}
	}
	for count := range 10 {
		texts, _ := roomy(mixedTexts(count, 4, 2), "spare")
		shards, ok := impl.EncodeShards(texts, 2)
		if good := count >= 1 && count <= 8; ok != good || good && !slices.Equal(shards, longShards(texts, 2)) {
			t.Errorf("EncodeShards of %q: %#v, %v", texts, shards, ok)
		}
		if got, ok := impl.JoinShards(texts, 4*count+1); got != "" || ok {
			t.Errorf("JoinShards of %q: %q, %v", texts, got, ok)
		}
	}
}

// requireOwnList writes to all that a result gives access to, and looks at the argument and at other results.
func requireOwnList[E, A comparable](t *testing.T, call func() ([]E, bool), argument []A) {
	t.Helper()
	before := slices.Clone(argument)
	first, _ := call()
	second, ok := call()
	kept := slices.Clone(second)
	clear(first[:cap(first)])
	if !ok || !slices.Equal(second, kept) {
		t.Error("the results of two calls share memory")
	}
	clear(second[:cap(second)])
	if !slices.Equal(argument, before) {
		t.Error("a result shares memory with an argument")
	}
	if again, ok := call(); !ok || !slices.Equal(again, kept) {
		t.Error("writing to a result changed the next one")
	}
}

func TestShardResultsShareNoMemory(t *testing.T) {
	for _, s := range allShapes() {
		requireUnsharedMatrix(t, func() (impl.Matrix, bool) { return impl.CodeMatrix(s.k, s.m) })
		data, dataMemory := roomy(mixedTexts(s.k, 3, 1), "spare")
		requireOwnList(t, func() ([]impl.Shard, bool) { return impl.EncodeShards(data, s.m) }, dataMemory)
		shards, shardMemory := roomy(longShards(data, s.m), impl.Shard{No: 99})
		requireOwnList(t, func() ([]string, bool) { return impl.DecodeShards(shards, s.k, s.m) }, shardMemory)
		requireOwnList(t, func() ([]string, bool) { return impl.SplitText("some text", s.k) }, dataMemory)
	}
}

// overlap reports whether a result lies in the memory of an argument.
func overlap(result, argument string) bool {
	first := uintptr(unsafe.Pointer(unsafe.StringData(argument)))
	place := uintptr(unsafe.Pointer(unsafe.StringData(result)))
	return len(result) > 0 && place >= first && place < first+uintptr(len(argument))
}

func requireApart(t *testing.T, name string, results, arguments []string) {
	t.Helper()
	for _, result := range results {
		for _, argument := range arguments {
			if overlap(result, argument) {
				t.Errorf("%s: %q lies in the memory of %q", name, result, argument)
			}
		}
	}
}

func shardTexts(shards ...impl.Shard) []string {
	var texts []string
	for _, shard := range shards {
		texts = append(texts, shard.Data)
	}
	return texts
}

// The first shards are equal to the data, so that these could be handed back as they are.
func TestShardTextsShareNoMemory(t *testing.T) {
	for k := 1; k <= 8; k++ {
		data := mixedTexts(k, 12, 1)
		shards := encoded(t, data, 2)
		requireApart(t, "EncodeShards", shardTexts(shards...), data)
		decoded, _ := impl.DecodeShards(shards, k, 2)
		requireApart(t, "DecodeShards", decoded, shardTexts(shards...))
		for no := range shards {
			shard, _ := impl.RebuildShard(shards, k, 2, no)
			requireApart(t, "RebuildShard", shardTexts(shard), shardTexts(shards...))
		}
		for _, size := range []int{2, 12, 12 * k} {
			joined, _ := impl.JoinShards(data, size)
			requireApart(t, "JoinShards", []string{joined}, data)
		}
		text := strings.Join(mixedTexts(2, 20, k), "")
		split, _ := impl.SplitText(text, k)
		requireApart(t, "SplitText", split, []string{text})
	}
}

func TestShardCallsKeepNoState(t *testing.T) {
	right := longShards([]string{"ab", "cd"}, 2)
	for range 2 {
		requireNoneOf(t, right[:1], 2, 2)
		impl.EncodeShards([]string{"a", "bc"}, 2)
		impl.SplitText("text", 9)
		impl.JoinShards(nil, 1)
		requireDecoded(t, right[2:], shape{2, 2}, []string{"ab", "cd"})
		requireChecked(t, right, shape{2, 2}, true)
		requireRebuilt(t, right[1:], shape{2, 2}, right[0])
	}
}
