package tests

import (
	"slices"
	"strings"
	"testing"

	"loop.example/g00294/impl"
)

func requireNotMended(t *testing.T, c impl.Local, shards []impl.Shard, no int) {
	t.Helper()
	if got, ok := impl.MendLocal(c, shards, no); got != (impl.Shard{}) || ok {
		t.Fatalf("MendLocal %d of %#v with %v: %#v, %v", no, shards, c, got, ok)
	}
}

func requireNotEncodedLocal(t *testing.T, c impl.Local, data []string) {
	t.Helper()
	if got, ok := impl.EncodeLocal(c, data); len(got) != 0 || ok {
		t.Errorf("EncodeLocal of %q with %v: %#v, %v", data, c, got, ok)
	}
}

func requireNoAnswer(t *testing.T, c impl.Local, some []int) {
	t.Helper()
	if can, ok := impl.CanDecode(c, some); can || ok {
		t.Errorf("CanDecode of %v with %v: %v, %v", some, c, can, ok)
	}
}

// requireInvalidShards checks that no function takes these shards.
func requireInvalidShards(t *testing.T, c impl.Local, shards []impl.Shard) {
	t.Helper()
	requireNotLocalDecoded(t, c, shards)
	for no := -1; no <= shardCount(c); no++ {
		requireNotMended(t, c, shards, no)
	}
}

func requireNoGroup(t *testing.T, c impl.Local, no int) {
	t.Helper()
	if group, ok := impl.GroupOf(c, no); group != 0 || ok {
		t.Errorf("GroupOf %d with %v: %d, %v", no, c, group, ok)
	}
	if helpers, ok := impl.HelpersOf(c, no); len(helpers) != 0 || ok {
		t.Errorf("HelpersOf %d with %v: %v, %v", no, c, helpers, ok)
	}
}

// requireNoCode checks that every function fails for a code, with arguments that other codes take.
func requireNoCode(t *testing.T, c impl.Local) {
	t.Helper()
	if impl.GoodLocal(c) {
		t.Errorf("GoodLocal of %v is true", c)
	}
	code, ok := impl.LocalMatrix(c)
	requireNoMatrix(t, "LocalMatrix", code, ok)
	for _, count := range []int{0, 1, 2, 4, 5, 8, 9, 16} {
		requireNotEncodedLocal(t, c, mixedTexts(count, 2, 1))
		shards := numbered(mixedTexts(count, 2, 1)...)
		requireNotLocalDecoded(t, c, shards)
		for no := -1; no <= count; no++ {
			requireNotMended(t, c, shards, no)
		}
		var some []int
		for no := range count {
			some = append(some, no)
		}
		requireNoAnswer(t, c, some)
	}
	requireNoAnswer(t, c, nil)
	for _, no := range []int{-1, 0, 1, 2, 5, 8, 12, 15, 16} {
		requireNoGroup(t, c, no)
	}
}

func TestGoodLocal(t *testing.T) {
	for groups := -5; groups <= 9; groups++ {
		for each := -5; each <= 9; each++ {
			for global := -5; global <= 9; global++ {
				c := localCode(groups, each, global)
				good := slices.Contains(allLocals(), c)
				if impl.GoodLocal(c) != good {
					t.Errorf("GoodLocal of %v is %v", c, !good)
				}
				code, ok := impl.LocalMatrix(c)
				requireSides(t, "LocalMatrix", code, ok, good, shardCount(c), dataCount(c))
			}
		}
	}
}

func TestCodesAtTheLimits(t *testing.T) {
	for _, c := range []impl.Local{
		localCode(1, 1, 1), localCode(1, 1, 4), localCode(1, 4, 1), localCode(4, 1, 1),
		localCode(2, 4, 4), localCode(4, 2, 4), localCode(4, 2, 1), localCode(2, 4, 1),
	} {
		if !impl.GoodLocal(c) {
			t.Errorf("GoodLocal of %v is false", c)
		}
		data := mixedTexts(dataCount(c), 40, 3)
		shards := encodedLocal(t, c, data)
		requireLocalDecoded(t, c, shards, data)
		requireMended(t, c, shards[1:], shards[0])
	}
}

func TestInvalidCodesFail(t *testing.T) {
	for _, c := range []impl.Local{
		{}, localCode(0, 1, 1), localCode(1, 0, 1), localCode(1, 1, 0), localCode(0, 0, 1), localCode(0, 4, 4),
		localCode(5, 1, 1), localCode(1, 5, 1), localCode(1, 1, 5), localCode(2, 2, 0), localCode(2, 2, 5),
		localCode(3, 3, 1), localCode(3, 4, 1), localCode(4, 3, 1), localCode(4, 4, 4), localCode(1, 8, 1),
		localCode(8, 1, 1), localCode(-1, 1, 1), localCode(1, -1, 1), localCode(1, 1, -1), localCode(-1, -1, 1),
		localCode(-2, -2, 2), localCode(-2, -2, -2), localCode(-4, 2, 2),
	} {
		requireNoCode(t, c)
	}
	for _, n := range unusualInts() {
		requireNoCode(t, localCode(n, 2, 2))
		requireNoCode(t, localCode(2, n, 2))
		requireNoCode(t, localCode(2, 2, n))
		requireNoCode(t, localCode(n, n, n))
		requireNoCode(t, localCode(n, n, 1))
	}
}

func TestEncodeLocalCounts(t *testing.T) {
	for _, c := range allLocals() {
		for count := range 18 {
			data := mixedTexts(count, 3, 1)
			if count != dataCount(c) {
				requireNotEncodedLocal(t, c, data)
			} else if got := encodedLocal(t, c, data); !slices.Equal(got, longLocalShards(c, data)) {
				t.Errorf("EncodeLocal of %q with %v: %#v", data, c, got)
			}
		}
		requireNotEncodedLocal(t, c, nil)
	}
}

func TestEncodeLocalLengths(t *testing.T) {
	for _, c := range allLocals() {
		for _, length := range []int{0, 1, 39, 40, 41, 80, 1000} {
			data := mixedTexts(dataCount(c), length, 8)
			if length > 40 {
				requireNotEncodedLocal(t, c, data)
				requireInvalidShards(t, c, longLocalShards(c, data))
				continue
			}
			shards := encodedLocal(t, c, data)
			requireLocalDecoded(t, c, shards, data)
			for place := range data {
				for _, other := range []int{0, 1, 2, 38, 39, 40, 41} {
					wrong := slices.Clone(data)
					wrong[place] = strings.Repeat("x", other)
					if other != length && len(data) > 1 {
						requireNotEncodedLocal(t, c, wrong)
					}
				}
			}
		}
	}
}

func TestNumbersWithoutAGroup(t *testing.T) {
	for _, c := range allLocals() {
		shards := longLocalShards(c, mixedTexts(dataCount(c), 2, 8))
		first := dataCount(c) + c.Groups
		for no := first; no <= 20; no++ {
			requireNoGroup(t, c, no)
			requireNotMended(t, c, shards, no)
		}
		for _, no := range append(unusualInts(), -first, -2) {
			requireNoGroup(t, c, no)
			requireNotMended(t, c, shards, no)
		}
		// The shards on both sides of each border: data, group parities, global parities.
		requireGroup(t, c, 0, 0)
		requireGroup(t, c, dataCount(c)-1, c.Groups-1)
		requireGroup(t, c, dataCount(c), 0)
		requireGroup(t, c, first-1, c.Groups-1)
	}
}

func requireGroup(t *testing.T, c impl.Local, no, want int) {
	t.Helper()
	if got, ok := impl.GroupOf(c, no); !ok || got != want {
		t.Errorf("GroupOf %d with %v: %d, %v, want %d", no, c, got, ok, want)
	}
}

func TestMendLocalWithoutAHelper(t *testing.T) {
	for _, c := range allLocals() {
		for _, length := range []int{0, 2} {
			shards := longLocalShards(c, mixedTexts(dataCount(c), length, 8))
			for _, members := range groupMembers(c) {
				for _, no := range members {
					requireNotMended(t, c, nil, no)
					for _, helper := range without(members, no) {
						left := slices.Delete(slices.Clone(shards), helper, helper+1)
						requireNotMended(t, c, left, no)
						requireNotMended(t, c, pickedShards(shards, without(members, helper)), no)
					}
				}
			}
		}
	}
}

// Shards are judged wherever they stand, also those that are of no use.
func TestLocalShardNumbers(t *testing.T) {
	for _, c := range smallLocals() {
		shards := longLocalShards(c, mixedTexts(dataCount(c), 2, 8))
		count := len(shards)
		for place := range shards {
			for _, no := range append(unusualInts(), count, count+1, 15, 16, 17) {
				wrong := slices.Clone(shards)
				wrong[place].No = no
				if no < 0 || no >= count {
					requireInvalidShards(t, c, wrong)
				}
			}
			if place == 0 {
				continue
			}
			doubled := slices.Clone(shards)
			doubled[place] = doubled[place-1]
			requireInvalidShards(t, c, doubled)
			requireInvalidShards(t, c, slices.Insert(slices.Clone(shards), place, shards[place]))
			swapped := slices.Clone(shards)
			swapped[place], swapped[place-1] = swapped[place-1], swapped[place]
			requireInvalidShards(t, c, swapped)
		}
		requireInvalidShards(t, c, append(slices.Clone(shards), impl.Shard{No: count, Data: "xx"}))
		requireInvalidShards(t, c, slices.Repeat(shards, 50))
		slices.Reverse(shards)
		requireInvalidShards(t, c, shards)
	}
}

func TestLocalShardLengths(t *testing.T) {
	for _, c := range smallLocals() {
		for _, length := range []int{0, 1, 39, 40} {
			shards := longLocalShards(c, mixedTexts(dataCount(c), length, 8))
			for place := range shards {
				for _, other := range []int{0, 1, 2, 39, 40, 41} {
					wrong := slices.Clone(shards)
					wrong[place].Data = strings.Repeat("x", other)
					if other != length {
						requireInvalidShards(t, c, wrong)
					}
				}
			}
		}
	}
}

func TestCanDecodeOfInvalidLists(t *testing.T) {
	for _, c := range allLocals() {
		count := shardCount(c)
		for _, no := range append(unusualInts(), count, count+1, 16, 17) {
			if no >= 0 && no < count {
				continue
			}
			requireNoAnswer(t, c, []int{no})
			requireNoAnswer(t, c, []int{0, no})
			requireNoAnswer(t, c, []int{no, 0})
			requireNoAnswer(t, c, []int{0, 1, no})
		}
		all := make([]int, count)
		for no := range all {
			all[no] = no
		}
		requireCanDecode(t, c, all, true)
		requireNoAnswer(t, c, append(slices.Clone(all), count))
		requireNoAnswer(t, c, append([]int{-1}, all...))
		for place := 1; place < count; place++ {
			doubled := slices.Clone(all)
			doubled[place]--
			requireNoAnswer(t, c, doubled)
			requireNoAnswer(t, c, slices.Insert(slices.Clone(all), place, place))
			swapped := slices.Clone(all)
			swapped[place], swapped[place-1] = place-1, place
			requireNoAnswer(t, c, swapped)
		}
		requireNoAnswer(t, c, make([]int, 100))
	}
}

func TestNoShardsDecodeNothing(t *testing.T) {
	for _, c := range allLocals() {
		requireCanDecode(t, c, nil, false)
		requireCanDecode(t, c, []int{}, false)
		requireNotLocalDecoded(t, c, nil)
		requireNotLocalDecoded(t, c, []impl.Shard{})
	}
}

// Shards that one code has may be too many for another one.
func TestShardsOfAnotherCode(t *testing.T) {
	data := mixedTexts(4, 2, 6)
	shards := longLocalShards(localCode(2, 2, 3), data)
	requireInvalidShards(t, localCode(2, 2, 2), shards)
	requireInvalidShards(t, localCode(2, 2, 2), shards[5:])
	requireLocalDecoded(t, localCode(2, 2, 2), shards[:8], data)
	requireLocalDecoded(t, localCode(2, 2, 3), shards[5:], data)
	requireNotEncodedLocal(t, localCode(2, 3, 2), data)
}

func testLocalShards() [][]impl.Shard {
	right := longLocalShards(localCode(2, 2, 2), mixedTexts(4, 4, 2))
	return [][]impl.Shard{
		nil, {}, right, right[4:], right[:2], right[:4], right[1:5], spoiled(right, 1, 1, 1),
		{right[1], right[0], right[4]}, {right[0], right[0], right[4]},
		numbered("a", "b", "cc"), numbered("", "", "", ""), numbered(mixedTexts(9, 41, 1)...),
	}
}

func someLocals() []impl.Local {
	return []impl.Local{{}, localCode(2, 2, 2), localCode(1, 2, 1), localCode(2, 4, 4), localCode(4, 2, 4), localCode(3, 3, 3)}
}

func TestLocalArgumentsAreNotModified(t *testing.T) {
	for _, list := range testLocalShards() {
		shards, memory := roomy(list, impl.Shard{No: 99, Data: "spare"})
		before := slices.Clone(memory)
		for _, c := range someLocals() {
			impl.DecodeLocal(c, shards)
			for no := -1; no <= 16; no++ {
				impl.MendLocal(c, shards, no)
			}
		}
		if !slices.Equal(memory, before) {
			t.Errorf("the shards %#v became %#v", before, memory)
		}
	}
	for count := range 10 {
		data, memory := roomy(mixedTexts(count, 4, 1), "spare")
		some, numbers := roomy([]int{0, 4, 5, 6, 7, 3, 9, 1, 2}[:min(count, 9)], 8)
		before, numbersBefore := slices.Clone(memory), slices.Clone(numbers)
		for _, c := range someLocals() {
			impl.EncodeLocal(c, data)
			impl.CanDecode(c, some)
		}
		if !slices.Equal(memory, before) || !slices.Equal(numbers, numbersBefore) {
			t.Errorf("%q and %v became %q and %v", before, numbersBefore, memory, numbers)
		}
	}
}

// What stands behind a list would make it valid, or invalid, or enough, if it were read.
func TestSpareLocalArgumentsAreNotRead(t *testing.T) {
	c := localCode(2, 2, 2)
	data := mixedTexts(4, 4, 2)
	right := longLocalShards(c, data)
	all := []int{0, 1, 2, 3, 4, 5, 6, 7}
	for count := range right {
		some := slices.Clone(right)[:count]
		if count < 4 {
			requireNotLocalDecoded(t, c, some)
		} else {
			requireLocalDecoded(t, c, some, data)
		}
		requireCanDecode(t, c, slices.Clone(all)[:count], count >= 4)
		if count < 5 {
			requireNotMended(t, c, some, 0)
		}
		requireNotEncodedLocal(t, c, slices.Clone(data)[:count%4])
	}
	for _, behind := range []impl.Shard{{No: 99, Data: "spare"}, right[5], right[7]} {
		shards, _ := roomy(right, behind)
		requireLocalDecoded(t, c, shards, data)
		requireMended(t, c, shards, right[4])
	}
	numbers, _ := roomy(all, 8)
	requireCanDecode(t, c, numbers, true)
	texts, _ := roomy(data, "spare")
	if got := encodedLocal(t, c, texts); !slices.Equal(got, right) {
		t.Errorf("EncodeLocal of %q: %#v", texts, got)
	}
}

func TestLocalResultsShareNoMemory(t *testing.T) {
	for _, c := range allLocals() {
		requireUnsharedMatrix(t, func() (impl.Matrix, bool) { return impl.LocalMatrix(c) })
		data, dataMemory := roomy(mixedTexts(dataCount(c), 3, 1), "spare")
		requireOwnList(t, func() ([]impl.Shard, bool) { return impl.EncodeLocal(c, data) }, dataMemory)
		shards, shardMemory := roomy(longLocalShards(c, data), impl.Shard{No: 99})
		requireOwnList(t, func() ([]string, bool) { return impl.DecodeLocal(c, shards) }, shardMemory)
		for no := range dataCount(c) + c.Groups {
			requireOwnList(t, func() ([]int, bool) { return impl.HelpersOf(c, no) }, dataMemory)
		}
	}
}

// With one data shard a group, a shard is equal to its only helper, so that this could be handed back as it is.
func TestLocalTextsShareNoMemory(t *testing.T) {
	for _, c := range allLocals() {
		data := mixedTexts(dataCount(c), 12, 1)
		shards := encodedLocal(t, c, data)
		requireApart(t, "EncodeLocal", shardTexts(shards...), data)
		decoded, _ := impl.DecodeLocal(c, shards)
		requireApart(t, "DecodeLocal", decoded, shardTexts(shards...))
		for no := range dataCount(c) + c.Groups {
			shard, _ := impl.MendLocal(c, shards, no)
			requireApart(t, "MendLocal", shardTexts(shard), shardTexts(shards...))
		}
	}
}

// The order in which a map is visited differs from call to call; no result does.
func TestLocalCallsAreRepeatable(t *testing.T) {
	c := localCode(4, 2, 2)
	data := mixedTexts(8, 3, 14)
	want := longLocalShards(c, data)
	for range 50 {
		if got := encodedLocal(t, c, data); !slices.Equal(got, want) {
			t.Fatalf("EncodeLocal of %q: %#v", data, got)
		}
		requireGroup(t, c, 5, 2)
		requireGroup(t, c, 11, 3)
		requireNoGroup(t, c, 12)
	}
}

func TestLocalCallsKeepNoState(t *testing.T) {
	c := localCode(2, 2, 2)
	data := mixedTexts(4, 3, 15)
	right := longLocalShards(c, data)
	for range 2 {
		requireNotLocalDecoded(t, c, right[:3])
		requireNotEncodedLocal(t, c, data[:3])
		requireNotMended(t, c, right[:3], 3)
		requireNoAnswer(t, c, []int{2, 1})
		requireNoGroup(t, c, 6)
		requireLocalDecoded(t, c, right[3:], data)
		requireMended(t, c, right[:5], right[4])
		requireCanDecode(t, c, []int{0, 2, 6, 7}, true)
		requireCanDecode(t, localCode(1, 4, 1), []int{0, 2, 4}, false)
	}
}
